/- What is proved here: what the model's l13Half, l13Path, PackPath answer: half bytes, and the bytes of a path, in new memory. -/
import Derived.Test.YtihdmdbekdadlaaJ1
import Derived.Deep.RegionHeld3
import Derived.Deep.AppendLies
namespace Go.Proofs.Ytihdmdbekdadlaa
open Go.RowKit
set_option linter.unusedVariables false
set_option maxRecDepth 100000

theorem news2i (w : World) (x y : Value) (t : TypeId) : ∀ (j : Nat) (u : Value), [x, y][j]? = some u → (w.alloc (.cells #[x, y] t)).cell? ((⟨w.heap.size, 0, none⟩ : Addr).add j) = some u := by
  intro j u hj
  rw [add_none, Nat.zero_add, World.cell?_alloc_new]
  match j, hj with
  | 0, hj => simpa using hj
  | 1, hj => simpa using hj

set_option maxHeartbeats 1000000 in
theorem l13Half_any (a : Option Addr) (len cap : Nat) (xs : List Int) (w : World) (h : BRow w a len xs) (hl : len ≤ 1048576) :
    Calls Try.prog 59 #[.slice a len cap] w fun e w' => ∃ a' c', e = .returned (.slice a' (2 * len) c') ∧
      w'.ownsRow w.heap.size 2 1 (.slice a' (2 * len) c') (2 * len) ((hbs xs).map (Value.int .i64)) ∧ Below w.heap.size w w' := by
  obtain ⟨i0, hi, hz0, hz1, hz2⟩ := info_parts info2
  have hxl := h.1
  have HX := hide h
  have o0 : (w.alloc (.cells #[] 2)).ownsRow w.heap.size 2 1 (.slice (some ⟨w.heap.size, 0, none⟩) (2 * 0) 0) (2 * 0) ((hbs (xs.take 0)).map (Value.int .i64)) := World.ownsRow_lit w #[] 0 (Nat.le_refl _) (by unfold maxLen; omega) rfl
  have HO := hide o0
  clear h o0
  go_enter Try.func59, Try.ntmps59
  go_wp2_with fail
  go_loopw [3, 4] (fun v i wr => ∃ (k : Nat) (da : Option Addr) (dc : Nat), k ≤ len ∧ i = .int .i64 k ∧ v = .slice da (2 * k) dc ∧ wr.ownsRow w.heap.size 2 1 (.slice da (2 * k) dc) (2 * k) ((hbs (xs.take k)).map (Value.int .i64)) ∧
      Below w.heap.size w wr) (fun _ i _ => len - (intOf i).toNat)
  case atStart => exact ⟨0, _, _, Nat.zero_le _, rfl, rfl, unhide HO, below_alloc w _⟩
  case round =>
    obtain ⟨k, da, dc, hk, rfl, rfl, hown, hbel⟩ := hrel
    clear HO
    by_cases hlt : k < len
    · have hcx0 := ((unhide HX).below hbel (Nat.le_refl _))
      obtain ⟨b, off, rfl, hb, hc⟩ := hcx0.at (by omega)
      have hbw : b < w.heap.size := (by obtain ⟨b', o', e, hb', _⟩ := (unhide HX).at (by omega); cases e; exact hb')
      have hcx := hc k hlt
      clear hc hcx0
      have hxk := (unhide HX).2.1 (xs.getD k 0) (by rw [getD_at _ _ (by omega)]; exact List.getElem_mem _)
      have HS := hide (hbs_snoc xs k (by omega))
      generalize xs.getD k 0 = x at hcx hxk HS
      have hz := hbel.size
      have e1 : IntKind.i64.wrap (x.tdiv 16) = x / 16 := by rw [Int.tdiv_eq_ediv_of_nonneg hxk.1]; exact i64_up _ (by omega) (by omega)
      have e2 : x.tmod 16 = x % 16 := by rw [Int.tmod_eq_emod_of_nonneg hxk.1]
      have e3 : IntKind.i64.wrap x = x := i64_up _ (by omega) (by omega)
      have hcw : w.cell? ⟨b, off + k, none⟩ = some (.int .u8 x) := by rw [← hbel.cell (by exact hbw)]; exact hcx
      have HCW := hide hcw
      have HBE := hide hbel
      clear hbel hcw
      go_wp2_with fail
      go_region_held3 (fun w' => w'.cell? ⟨b, off + k, none⟩ = some (.int .u8 x)) (first | go_keep | assumption) ((refine step_append_lies _ (by rfl) (.tmp 12) (.tmp 25) 25 (by rfl) w.heap.size 2 i0 (.int .i64 0) 1 8 Try.underlying25 hi hz0 hz1 hz2 rfl (by decide) _ _ _ (by rfl) (by first | exact hown.alloc _ | exact (hown.alloc _).drew) ⟨wr.heap.size, 0, none⟩ 2 2 [.int .i64 (x / 16), .int .i64 (x % 16)] (by rfl) rfl (by exact news2i _ _ _ _) (by simp [Value.oneCell']) (by omega) (by unfold maxLen; omega) (by omega) (by simp; omega) _ rfl ?_; intro g cap2 w2 hown2 hgrow2 hat2 hlt2; have hb2 : Below w.heap.size w w2 := (((unhide HBE).alloc (by omega) _).drew).grown hgrow2 (by simp; omega) (fun q e => (hown.lt q e).1); have hS2 := (hb2.cell hbw).trans (unhide HCW)))
      have ho2 : w2.ownsRow w.heap.size 2 1 (.slice (some ⟨g, 0, none⟩) (2 * (k + 1)) cap2) (2 * (k + 1)) ((hbs (xs.take (k + 1))).map (Value.int .i64)) := by
        rw [unhide HS, List.map_append, show 2 * (k + 1) = 2 * k + 2 from by omega]
        exact hown2
      have HB2 := hide hb2
      have HO2 := hide ho2
      clear hb2 ho2 hown2 hgrow2 hown
      go_wp2_with fail
      go_roundw
      case rel => exact ⟨k + 1, some ⟨g, 0, none⟩, cap2, by omega, by go_num, rfl, unhide HO2, unhide HB2⟩
      case measure => simp [intOf]; omega
    · obtain rfl : k = len := by omega
      rw [List.take_of_length_le (by omega)] at hown
      go_wp2_with fail
      go_ret
      exact ⟨_, _, rfl, hown, hbel⟩

end Go.Proofs.Ytihdmdbekdadlaa

/- What is proved here: what the program's isHalfByte, pathHead, halfBytesOf and bytesOfHalves answer. -/
namespace Go.Proofs.Ytihdmdbekdadlaa
open Go.RowKit
set_option linter.unusedVariables false
set_option maxRecDepth 100000

set_option maxHeartbeats 1000000 in
theorem withinH_any (v lo hi : Int) (w : World) : Calls Try.prog 57 #[.int .i64 v, .int .i64 lo, .int .i64 hi] w fun e w' => e = .returned (.bool (decide (lo ≤ v ∧ v ≤ hi))) ∧ w' = w := by
  by_cases h0 : lo ≤ v
  · have e0 : decide (lo ≤ v) = true := decide_eq_true h0
    by_cases h1 : v ≤ hi
    · have e1 : decide (v ≤ hi) = true := decide_eq_true h1
      have e2 : decide (lo ≤ v ∧ v ≤ hi) = true := decide_eq_true ⟨h0, h1⟩
      rw [e2]
      go_enter Try.func57, Try.ntmps57
      go_wp2
      go_ret
      exact ⟨ret_bool (by simp), rfl⟩
    · have e1 : decide (v ≤ hi) = false := decide_eq_false h1
      have e2 : decide (lo ≤ v ∧ v ≤ hi) = false := decide_eq_false (fun h => h1 h.2)
      rw [e2]
      go_enter Try.func57, Try.ntmps57
      go_wp2
      go_ret
      exact ⟨ret_bool (by simp), rfl⟩
  · have e0 : decide (lo ≤ v) = false := decide_eq_false h0
    have e2 : decide (lo ≤ v ∧ v ≤ hi) = false := decide_eq_false (fun h => h0 h.1)
    rw [e2]
    go_enter Try.func57, Try.ntmps57
    go_wp2
    go_ret
    exact ⟨ret_bool (by simp), rfl⟩

theorem isHalf_any (v : Int) (w : World) : Calls Try.prog 39 #[.int .i64 v] w fun e w' => e = .returned (.bool (isH v)) ∧ w' = w := by
  go_enter Try.func39, Try.ntmps39
  go_wp2_with fail
  refine (withinH_any v 0 15 w).mono ?_
  rintro e w1 ⟨rfl, rfl⟩
  go_wp2_with fail
  go_ret
  exact ⟨ret_bool (by simp [isH]), rfl⟩

set_option maxHeartbeats 1000000 in
theorem pathHead_any (n : Nat) (e : Bool) (w : World) (hn : n ≤ 1000) : Calls Try.prog 41 #[.int .i64 n, .bool e] w fun e' w' => ∃ c', e' = .returned (.slice (some ⟨w.heap.size, 0, none⟩) (phd n e).length c') ∧
      w'.ownsRow w.heap.size 2 1 (.slice (some ⟨w.heap.size, 0, none⟩) (phd n e).length c') (phd n e).length ((phd n e).map (Value.int .i64)) ∧ Below w.heap.size w w' := by
  by_cases hev : n % 2 = 0
  · have hpar : (((n : Nat) : Int) % 2 == 0) = true := by rw [beq_iff_eq]; omega
    cases e
    · have hp : phd n false = [0, 0] := by unfold phd; rw [if_pos hev]; rfl
      rw [hp]
      go_enter Try.func41, Try.ntmps41
      go_wp2_with fail
      go_ret
      exact ⟨2, rfl, World.ownsRow_lit (size := 1) (e := 2) (base := w.heap.size) w #[.int .i64 0, .int .i64 0] 2 (Nat.le_refl _) (by unfold maxLen; omega) rfl, below_alloc w _⟩
    · have hp : phd n true = [2, 0] := by unfold phd; rw [if_pos hev]; rfl
      rw [hp]
      go_enter Try.func41, Try.ntmps41
      go_wp2_with fail
      go_ret
      exact ⟨2, rfl, World.ownsRow_lit (size := 1) (e := 2) (base := w.heap.size) w #[.int .i64 2, .int .i64 0] 2 (Nat.le_refl _) (by unfold maxLen; omega) rfl, below_alloc w _⟩
  · have hpar : (((n : Nat) : Int) % 2 == 0) = false := by rw [beq_eq_false_iff_ne]; omega
    cases e
    · have hp : phd n false = [1] := by unfold phd; rw [if_neg hev]; rfl
      rw [hp]
      go_enter Try.func41, Try.ntmps41
      go_wp2_with fail
      go_ret
      exact ⟨1, rfl, World.ownsRow_lit (size := 1) (e := 2) (base := w.heap.size) w #[.int .i64 1] 1 (Nat.le_refl _) (by unfold maxLen; omega) rfl, below_alloc w _⟩
    · have hp : phd n true = [3] := by unfold phd; rw [if_neg hev]; rfl
      rw [hp]
      go_enter Try.func41, Try.ntmps41
      go_wp2_with fail
      go_ret
      exact ⟨1, rfl, World.ownsRow_lit (size := 1) (e := 2) (base := w.heap.size) w #[.int .i64 3] 1 (Nat.le_refl _) (by unfold maxLen; omega) rfl, below_alloc w _⟩

set_option maxHeartbeats 1000000 in
theorem halfBytes_any (a : Option Addr) (len cap : Nat) (xs : List Int) (w : World) (h : BRow w a len xs) (hl : len ≤ 1048576) :
    Calls Try.prog 37 #[.slice a len cap] w fun e w' => ∃ g c', e = .returned (.slice (some ⟨g, 0, none⟩) (2 * len) c') ∧
      w'.ownsRow w.heap.size 2 1 (.slice (some ⟨g, 0, none⟩) (2 * len) c') (2 * len) ((hbs xs).map (Value.int .i64)) ∧ Below w.heap.size w w' := by
  obtain ⟨i0, hi, hz0, hz1, hz2⟩ := info_parts info2
  have hxl := h.1
  have HX := hide h
  clear h
  go_enter Try.func37, Try.ntmps37
  go_wp2_with (at_make; refine wpList_make_own _ rfl _ _ 25 rfl w.heap.size 2 i0 (.int .i64 0) 1 Try.underlying25 hi hz0 hz1 _ _ _ (2 * len) rfl rfl (by omega) ?c1 ?c2 ?c3 ?_)
  case c1 => rw [hz2]; omega
  case c2 => unfold maxLen; omega
  case c3 => simp
  intro w1 hown hgrow
  have hbel : Below w.heap.size w w1 := (Below.refl _ _).grown hgrow (Nat.le_refl _) (fun k e => by cases e)
  have HO := hide hown
  have HB := hide hbel
  clear hown hgrow hbel
  go_wp2_with fail
  go_loopw [3, 12] (fun v i wr => ∃ (k t g : Nat) (dc : Nat), k ≤ len ∧ t = 2 * k ∧ i = .int .i64 k ∧ v = .slice (some ⟨g, 0, none⟩) t dc ∧ wr.ownsRow w.heap.size 2 1 (.slice (some ⟨g, 0, none⟩) t dc) t ((hbs (xs.take k)).map (Value.int .i64)) ∧
      Below w.heap.size w wr) (fun _ i _ => len - (intOf i).toNat)
  case atStart => exact ⟨0, 0, _, _, Nat.zero_le _, rfl, rfl, rfl, unhide HO, unhide HB⟩
  case round =>
    obtain ⟨k, t, g, dc, hk, ht, rfl, rfl, hown, hbel⟩ := hrel
    clear HO HB
    by_cases hlt : k < len
    · obtain ⟨b, off, rfl, hb, hc⟩ := ((unhide HX).below hbel (Nat.le_refl _)).at (by omega)
      have hcx := hc k hlt
      clear hc
      have hxk := (unhide HX).2.1 (xs.getD k 0) (by rw [getD_at _ _ (by omega)]; exact List.getElem_mem _)
      have HS := hide (hbs_snoc xs k (by omega))
      generalize xs.getD k 0 = x at hcx hxk HS
      have hz := hbel.size
      have e1 : IntKind.u8.wrap (x.tdiv 16) = x / 16 := by rw [Int.tdiv_eq_ediv_of_nonneg hxk.1, IntKind.wrap_u8]; omega
      have e2 : x.tmod 16 = x % 16 := by rw [Int.tmod_eq_emod_of_nonneg hxk.1]
      have i1 : (0 : Int) ≤ (k : Int) := by omega
      have i2 : (k : Int) < (len : Int) := by omega
      have HBE := hide hbel
      have HT := hide ht
      clear hbel ht
      go_wp2_with (at_builtin; refine wpList_append_own _ rfl _ _ 25 rfl w.heap.size 2 i0 (.int .i64 0) 1 8 Try.underlying25 hi hz0 hz1 hz2 rfl (by decide) _ _ _ rfl (hown.alloc _) ⟨wr.heap.size, 0, none⟩ 2 2 [.int .i64 (x / 16), .int .i64 (x % 16)] rfl rfl ?c1 ?c2 ?c3 ?c4 ?c5 ?_)
      case c1 => exact news2i _ _ _ _
      case c2 => simp [Value.oneCell']
      case c3 => have := unhide HT; unfold maxLen; omega
      case c4 => have := unhide HT; omega
      case c5 => simp; omega
      intro v3 w3 o3 hgrow _
      obtain ⟨g3, cap3, hv3⟩ := own_some o3 (by omega)
      have b3 : Below w.heap.size w w3 := ((unhide HBE).alloc hz _).grown hgrow (by simp; omega) (fun q e => (hown.lt q e).1)
      rw [hv3] at o3
      rw [hv3]
      have O3 : Hid (w3.ownsRow w.heap.size 2 1 (.slice (some ⟨g3, 0, none⟩) (t + 2) cap3) (t + 2) ((hbs (xs.take (k + 1))).map (Value.int .i64))) := by
        show w3.ownsRow _ _ _ _ _ _
        rw [unhide HS, List.map_append]
        exact o3
      have HB3 := hide b3
      clear o3 b3 hgrow hv3 hown
      go_wp2_with fail
      go_roundw
      case rel => exact ⟨k + 1, t + 2, g3, cap3, by omega, by have := unhide HT; omega, by go_num, rfl, unhide O3, unhide HB3⟩
      case measure => simp [intOf]; omega
    · obtain rfl : k = len := by omega
      rw [List.take_of_length_le (by omega)] at hown
      subst ht
      have HBE := hide hbel
      have HO := hide hown
      clear hbel hown
      go_wp2_with fail
      go_ret
      exact ⟨_, _, rfl, unhide HO, unhide HBE⟩

set_option maxHeartbeats 2000000 in
theorem bytesOfHalves_any (a : Option Addr) (n cap : Nat) (q : List Int) (w : World) (h : IRow w a n q) (hn : n ≤ 1000) (ha : q.all isH = true) :
    Calls Try.prog 42 #[.slice a n cap] w fun e w' => ∃ a' c', e = .returned (.slice a' (n / 2) c') ∧
      w'.ownsRow w.heap.size 5 1 (.slice a' (n / 2) c') (n / 2) ((pkB q).map (Value.int .u8)) ∧ Below w.heap.size w w' := by
  obtain ⟨i0, hi, hz0, hz1, hz2⟩ := info_parts info5
  have hql := h.1
  have hpk := pkB_length q
  rw [hql] at hpk
  have HX := hide h
  have HAT := hide (fun k hk => all_at ha (k := k) hk)
  have HPA := hide (pkB_at q)
  obtain ⟨H, hH⟩ : ∃ H, H = n / 2 := ⟨_, rfl⟩
  rw [← hH] at hpk ⊢
  have hH2 : 2 * H ≤ n := by omega
  have hHq : (n : Int) / 2 = (H : Int) := by omega
  have HF := hide (fun k hk => fill_step (pkB q) H k hpk hk)
  clear h ha hH
  go_enter Try.func42, Try.ntmps42
  go_wp2_with (at_make; refine wpList_make_full _ rfl _ _ 22 rfl w.heap.size 5 i0 (.int .u8 0) 1 Try.underlying22 hi hz0 hz1 _ _ _ _ H rfl rfl (by omega) (by omega) ?c1 ?c2 ?c3 ?_)
  case c1 => rw [hz2]; omega
  case c2 => unfold maxLen; omega
  case c3 => simp
  intro w1 hown hgrow
  have hown0 : w1.ownsRow w.heap.size 5 1 (.slice (some ⟨w.heap.size, 0, none⟩) H H) H (((pkB q).take 0 ++ List.replicate (H - 0) 0).map (Value.int .u8)) := by
    have e : (madeCells #[Value.int .u8 0] H).toList = ((pkB q).take 0 ++ List.replicate (H - 0) 0).map (Value.int .u8) := by
      rw [toList_madeCells_one]; simp
    rw [← e]; exact hown
  have hbel : Below w.heap.size w w1 := (Below.refl _ _).grown hgrow (Nat.le_refl _) (fun k e => by cases e)
  have HO := hide hown0
  have HB := hide hbel
  clear hown hgrow hbel hown0
  go_wp2_with fail
  go_loopw [11] (fun i wr => ∃ k : Nat, k ≤ H ∧ i = .int .i64 k ∧ wr.ownsRow w.heap.size 5 1 (.slice (some ⟨w.heap.size, 0, none⟩) H H) H (((pkB q).take k ++ List.replicate (H - k) 0).map (Value.int .u8)) ∧ Below w.heap.size w wr) (fun i _ => H - (intOf i).toNat)
  case atStart => exact ⟨0, Nat.zero_le _, rfl, unhide HO, unhide HB⟩
  case round =>
    obtain ⟨k, hk, rfl, hown, hbel⟩ := hrel
    clear HO HB
    by_cases hlt : k < H
    · obtain ⟨t, ht⟩ : ∃ t, t = 2 * k := ⟨_, rfl⟩
      obtain ⟨s, hs⟩ : ∃ s, s = t + 1 := ⟨_, rfl⟩
      obtain ⟨b, off, rfl, hb, hc⟩ := ((unhide HX).below hbel (Nat.le_refl _)).at (by omega)
      have c0 : wr.cell? ⟨b, off + t, none⟩ = some (.int .i64 (q.getD t 0)) := hc t (by omega)
      have c1 : wr.cell? ⟨b, off + s, none⟩ = some (.int .i64 (q.getD s 0)) := hc s (by omega)
      have x0 := (unhide HAT) t (by omega)
      have x1 := (unhide HAT) s (by omega)
      have hst := (unhide HF) k hlt
      have hpa := (unhide HPA) k (by omega)
      rw [← ht, ← hs] at hpa
      rw [hpa] at hst
      generalize q.getD t 0 = x at c0 x0 hst
      generalize q.getD s 0 = y at c1 x1 hst
      have hfz := hown.frozenAt k
      obtain ⟨u, hu⟩ : ∃ u, wr.cell? ⟨w.heap.size, k, none⟩ = some u := by
        rw [hown.cellAt k (by omega)]
        exact ⟨_, List.getElem?_eq_getElem (by rw [hown.1]; omega)⟩
      have R := hown.stored k (.int .u8 (16 * x + y))
      rw [hst] at R
      have HR := hide R.1
      have HB2 : Hid (Below w.heap.size w (wr.setCell ⟨w.heap.size, k, none⟩ (.int .u8 (16 * x + y)))) := hbel.setCell (Nat.le_refl _) _
      have e1 : IntKind.i64.wrap (16 * x) = 16 * x := i64_up _ (by omega) (by omega)
      have e2 : IntKind.i64.wrap (16 * x + y) = 16 * x + y := i64_up _ (by omega) (by omega)
      have e3 : IntKind.u8.wrap (16 * x + y) = 16 * x + y := by rw [IntKind.wrap_u8]; omega
      have j1 : (2 : Int) * (k : Int) = (t : Int) := by omega
      have j2 : IntKind.i64.wrap (t : Int) = (t : Int) := i64_up _ (by omega) (by omega)
      have j3 : (t : Int) + 1 = (s : Int) := by omega
      have j4 : IntKind.i64.wrap (s : Int) = (s : Int) := i64_up _ (by omega) (by omega)
      have i1 : (0 : Int) ≤ (k : Int) := by omega
      have i2 : (k : Int) < (H : Int) := by omega
      have i3 : (0 : Int) ≤ (t : Int) := by omega
      have i4 : (t : Int) < (n : Int) := by omega
      have i5 : (0 : Int) ≤ (s : Int) := by omega
      have i6 : (s : Int) < (n : Int) := by omega
      clear R hst hpa hc hs ht hown hbel HAT HPA HF
      go_wp2_with fail
      go_region
      go_wp2_with fail
      go_roundw
      case rel => exact ⟨k + 1, by omega, by go_num, unhide HR, (unhide HB2).drew⟩
      case measure => simp [intOf]; omega
    · obtain rfl : k = H := by omega
      have e : ((pkB q).take k ++ List.replicate (k - k) 0) = pkB q := by rw [List.take_of_length_le (by omega)]; simp
      rw [e] at hown
      have HBE := hide hbel
      have HO := hide hown
      clear hbel hown e
      go_wp2_with fail
      go_ret
      exact ⟨_, _, rfl, unhide HO, unhide HBE⟩

end Go.Proofs.Ytihdmdbekdadlaa

/- What is proved here: what the model's l13Path and PackPath answer: the bytes of a path, in new memory. -/
namespace Go.Proofs.Ytihdmdbekdadlaa
open Go.RowKit
set_option linter.unusedVariables false
set_option maxRecDepth 100000

theorem u8_up (n : Int) (h0 : 0 ≤ n) (h1 : n ≤ 255) : IntKind.u8.wrap n = n := by rw [IntKind.wrap_u8]; omega

theorem new1b (w : World) (x : Value) (t : TypeId) : ∀ (j : Nat) (u : Value), [x][j]? = some u → (w.alloc (.cells #[x] t)).cell? ((⟨w.heap.size, 0, none⟩ : Addr).add j) = some u := by
  intro j u hj
  rw [add_none, Nat.zero_add, World.cell?_alloc_new]
  match j, hj with
  | 0, hj => simpa using hj

set_option maxHeartbeats 2000000 in
theorem l13Path_e0 (a : Option Addr) (n cap : Nat) (p : List Int) (w : World) (h : IRow w a n p) (hcap : a = none → cap = 0) (hn : n ≤ 1000) (ha : p.all isH = true) (hev : n % 2 = 0) (q : List Int) (hq : q = [2, 0] ++ p) (N : Nat) (hN : N = 2 + n) :
    Calls Try.prog 46 #[.slice a n cap, .bool true] w fun e w' => ∃ a' c', e = .returned (.slice a' (N / 2) c') ∧
      w'.ownsRow w.heap.size 5 1 (.slice a' (N / 2) c') (N / 2) ((pkB q).map (Value.int .u8)) ∧ Below w.heap.size w w' := by
  obtain ⟨i0, hi, hz0, hz1, hz2⟩ := info_parts info2
  obtain ⟨j0, hj, hy0, hy1, hy2⟩ := info_parts info5
  have hpl := h.1
  have hpar : (((n : Nat) : Int) % 2 == 1) = false := by rw [beq_eq_false_iff_ne]; omega
  have HX := hide h
  have hall : q.all isH = true := by rw [hq, List.all_append, ha]; decide
  have hlen : q.length = N := by rw [hq, List.length_append, hpl, hN]; rfl
  have hpk := pkB_length q
  rw [hlen] at hpk
  have hN2 : N % 2 = 0 := by omega
  have hNn : N ≤ 1002 := by omega
  have hpos : 0 < N := by omega
  have HQ := hide hq
  have HN := hide hN
  clear hq hN
  have HAT := hide (fun k hk => all_at hall (k := k) hk)
  have HSN := hide (pkB_snoc q)
  have HCP := hide hcap
  have HL := hide (World.ownsRow_lit (size := 1) (e := 2) (base := w.heap.size) w #[.int .i64 2, .int .i64 0] 2 (Nat.le_refl _) (by unfold maxLen; omega) rfl)
  clear h hall hcap ha
  go_enter Try.func46, Try.ntmps46
  go_wp2_with (at_builtin; refine wpList_append_irow _ rfl _ _ 25 rfl w.heap.size i0 Try.underlying25 hi hz0 hz1 hz2 _ 2 [2, 0] rfl (by exact unhide HL) a n cap p rfl (by first | exact (unhide HX).below (below_alloc w _) (Nat.le_refl _) | exact ((unhide HX).below (below_alloc w _) (Nat.le_refl _)).below (below_alloc _ _) (Nat.le_refl _)) (unhide HCP) (by omega) (by simp; try omega) ?_)
  intro a1 c1 w1 o1 g1
  have B1 : Below w.heap.size w w1 := by
    first
    | exact (below_alloc w _).grown g1 (by simp) (fun g e => by simp [Value.ownBlock] at e; omega)
    | exact ((below_alloc w _).alloc (by simp) _).grown g1 (by simp; omega) (fun g e => by simp [Value.ownBlock] at e; omega)
  clear g1
  have o1 : w1.ownsRow w.heap.size 2 1 (.slice a1 N c1) N (q.map (Value.int .i64)) := by rw [unhide HQ, unhide HN]; exact o1
  rw [← unhide HN]
  have R1 := IRow.own2 o1
  have s1 := B1.size
  have o2 : (w1.alloc (.cells #[] 5)).ownsRow w1.heap.size 5 1 (.slice (some ⟨w1.heap.size, 0, none⟩) 0 0) 0 (((pkB q).take 0).map (Value.int .u8)) := by
    have := World.ownsRow_lit (size := 1) (e := 5) (base := w1.heap.size) w1 #[] 0 (Nat.le_refl _) (by unfold maxLen; omega) rfl
    simpa using this
  have HO := hide o2
  have HR := hide R1
  have HB := hide B1
  clear o1 o2 R1 B1 HL HX
  obtain ⟨b1, f1, ea, hb1, hc1⟩ := (unhide HR).at hpos
  have HC1 := hide hc1
  subst ea
  clear hc1 HR
  go_wp2_with fail
  go_loopw [7, 8] (fun v i wr => ∃ (k t : Nat) (da : Option Addr) (dc : Nat), k ≤ N / 2 ∧ t = 2 * k ∧ i = .int .i64 t ∧ v = .slice da k dc ∧ wr.ownsRow w1.heap.size 5 1 (.slice da k dc) k (((pkB q).take k).map (Value.int .u8)) ∧ Below w1.heap.size w1 wr) (fun _ i _ => N - (intOf i).toNat)
  case atStart => exact ⟨0, 0, _, _, Nat.zero_le _, rfl, rfl, rfl, unhide HO, below_alloc _ _⟩
  case round =>
    obtain ⟨k, t, da, dc, hk, ht, rfl, rfl, hown, hbel⟩ := hrel
    clear HO
    by_cases hlt : t + 1 < N
    · have c0 : w1.cell? ⟨b1, f1 + t, none⟩ = some (.int .i64 (q.getD t 0)) := (unhide HC1) t (by omega)
      have c9 : w1.cell? ⟨b1, f1 + (t + 1), none⟩ = some (.int .i64 (q.getD (t + 1) 0)) := (unhide HC1) (t + 1) (by omega)
      have x0 := (unhide HAT) t (by omega)
      have x1 := (unhide HAT) (t + 1) (by omega)
      have HS := (unhide HSN) k (by omega)
      rw [← ht] at HS
      have HS := hide HS
      obtain ⟨s, hs⟩ : ∃ s, s = t + 1 := ⟨_, rfl⟩
      rw [← hs] at c9 x1 HS
      generalize q.getD t 0 = x at c0 x0 HS
      generalize q.getD s 0 = y at c9 x1 HS
      have d0 := (hbel.cell hb1).trans c0
      have d1 := (hbel.cell hb1).trans c9
      have hz := hbel.size
      have e1 : IntKind.i64.wrap (x * 16) = x * 16 := i64_up _ (by omega) (by omega)
      have e2 : IntKind.i64.wrap (x * 16 + y) = x * 16 + y := i64_up _ (by omega) (by omega)
      have e3 : IntKind.u8.wrap (x * 16 + y) = x * 16 + y := u8_up _ (by omega) (by omega)
      have i1 : (0 : Int) ≤ (t : Int) := by omega
      have i2 : (t : Int) < (N : Int) := by omega
      have i3 : (t : Int) + 1 = (s : Int) := by omega
      have i4 : (0 : Int) ≤ (s : Int) := by omega
      have i5 : (s : Int) < (N : Int) := by omega
      have i6 : IntKind.i64.wrap (s : Int) = (s : Int) := i64_up _ (by omega) (by omega)
      have hsn : s < N := by omega
      have HCW := hide (And.intro c0 c9)
      have HBE := hide hbel
      have HT := hide ht
      clear hbel c0 c9 ht hs hlt
      go_wp2_with fail
      go_region_held3 (fun w' => w'.cell? ⟨b1, f1 + t, none⟩ = some (.int .i64 x) ∧ w'.cell? ⟨b1, f1 + s, none⟩ = some (.int .i64 y)) (first | go_keep | assumption) ((refine step_append_lies _ (by rfl) (.tmp 30) (.tmp 43) 22 (by rfl) w1.heap.size 5 j0 (.int .u8 0) 1 1 Try.underlying22 hj hy0 hy1 hy2 rfl (by decide) _ _ _ (by rfl) (by first | exact hown.alloc _ | exact (hown.alloc _).drew) ⟨wr.heap.size, 0, none⟩ 1 1 [.int .u8 (x * 16 + y)] (by rfl) rfl (by exact new1b _ _ _) (by simp [Value.oneCell']) (by omega) (by unfold maxLen; omega) (by omega) (by simp; omega) _ rfl ?_; intro g cap2 w2 hown2 hgrow2 hat2 hlt2; have hb2 : Below w1.heap.size w1 w2 := (((unhide HBE).alloc (by omega) _).drew).grown hgrow2 (by simp; omega) (fun q e => (hown.lt q e).1); have hS2 := And.intro ((hb2.cell hb1).trans (unhide HCW).1) ((hb2.cell hb1).trans (unhide HCW).2)))
      have ho2 : w2.ownsRow w1.heap.size 5 1 (.slice (some ⟨g, 0, none⟩) (k + 1) cap2) (k + 1) (((pkB q).take (k + 1)).map (Value.int .u8)) := by
        rw [unhide HS, List.map_append, show 16 * x + y = x * 16 + y from by omega]
        exact hown2
      have HB2 := hide hb2
      have HO2 := hide ho2
      clear hb2 ho2 hown2 hgrow2 hown hS2
      go_wp2_with fail
      go_roundw
      case rel => exact ⟨k + 1, t + 2, some ⟨g, 0, none⟩, cap2, by have := unhide HT; omega, by have := unhide HT; omega, by go_num, rfl, unhide HO2, unhide HB2⟩
      case measure => simp [intOf]; omega
    · obtain rfl : t = N := by omega
      obtain rfl : k = t / 2 := by omega
      rw [List.take_of_length_le (by omega)] at hown
      have HBE := hide hbel
      have hno : ¬ ((t : Int) + 1 < (t : Int)) := by omega
      have hno2 : decide ((t : Int) + 1 < (t : Int)) = false := decide_eq_false hno
      clear hbel ht
      go_wp2_with fail
      go_ret
      exact ⟨_, _, rfl, ownsRow_base hown s1, (unhide HB).trans ((unhide HBE).mono s1)⟩

set_option maxHeartbeats 2000000 in
theorem l13Path_e1 (a : Option Addr) (n cap : Nat) (p : List Int) (w : World) (h : IRow w a n p) (hcap : a = none → cap = 0) (hn : n ≤ 1000) (ha : p.all isH = true) (hev : n % 2 = 1) (q : List Int) (hq : q = [3] ++ p) (N : Nat) (hN : N = 1 + n) :
    Calls Try.prog 46 #[.slice a n cap, .bool true] w fun e w' => ∃ a' c', e = .returned (.slice a' (N / 2) c') ∧
      w'.ownsRow w.heap.size 5 1 (.slice a' (N / 2) c') (N / 2) ((pkB q).map (Value.int .u8)) ∧ Below w.heap.size w w' := by
  obtain ⟨i0, hi, hz0, hz1, hz2⟩ := info_parts info2
  obtain ⟨j0, hj, hy0, hy1, hy2⟩ := info_parts info5
  have hpl := h.1
  have hpar : (((n : Nat) : Int) % 2 == 1) = true := by rw [beq_iff_eq]; omega
  have HX := hide h
  have hall : q.all isH = true := by rw [hq, List.all_append, ha]; decide
  have hlen : q.length = N := by rw [hq, List.length_append, hpl, hN]; rfl
  have hpk := pkB_length q
  rw [hlen] at hpk
  have hN2 : N % 2 = 0 := by omega
  have hNn : N ≤ 1002 := by omega
  have hpos : 0 < N := by omega
  have HQ := hide hq
  have HN := hide hN
  clear hq hN
  have HAT := hide (fun k hk => all_at hall (k := k) hk)
  have HSN := hide (pkB_snoc q)
  have HCP := hide hcap
  have HL : Hid (∀ o, ((w.alloc o).alloc (.cells #[.int .i64 3] 2)).ownsRow w.heap.size 2 1 (.slice (some ⟨w.heap.size + 1, 0, none⟩) 1 1) 1 [.int .i64 3]) := fun o => by
    have := World.ownsRow_lit (size := 1) (e := 2) (base := w.heap.size) (w.alloc o) #[.int .i64 3] 1 (by simp) (by unfold maxLen; omega) rfl
    simpa using this
  clear h hall hcap ha
  go_enter Try.func46, Try.ntmps46
  go_wp2_with (at_builtin; refine wpList_append_irow _ rfl _ _ 25 rfl w.heap.size i0 Try.underlying25 hi hz0 hz1 hz2 _ 1 [3] rfl (by exact (unhide HL) _) a n cap p rfl (by first | exact (unhide HX).below (below_alloc w _) (Nat.le_refl _) | exact ((unhide HX).below (below_alloc w _) (Nat.le_refl _)).below (below_alloc _ _) (Nat.le_refl _)) (unhide HCP) (by omega) (by simp; try omega) ?_)
  intro a1 c1 w1 o1 g1
  have B1 : Below w.heap.size w w1 := by
    first
    | exact (below_alloc w _).grown g1 (by simp) (fun g e => by simp [Value.ownBlock] at e; omega)
    | exact ((below_alloc w _).alloc (by simp) _).grown g1 (by simp; omega) (fun g e => by simp [Value.ownBlock] at e; omega)
  clear g1
  have o1 : w1.ownsRow w.heap.size 2 1 (.slice a1 N c1) N (q.map (Value.int .i64)) := by rw [unhide HQ, unhide HN]; exact o1
  rw [← unhide HN]
  have R1 := IRow.own2 o1
  have s1 := B1.size
  have o2 : (w1.alloc (.cells #[] 5)).ownsRow w1.heap.size 5 1 (.slice (some ⟨w1.heap.size, 0, none⟩) 0 0) 0 (((pkB q).take 0).map (Value.int .u8)) := by
    have := World.ownsRow_lit (size := 1) (e := 5) (base := w1.heap.size) w1 #[] 0 (Nat.le_refl _) (by unfold maxLen; omega) rfl
    simpa using this
  have HO := hide o2
  have HR := hide R1
  have HB := hide B1
  clear o1 o2 R1 B1 HL HX
  obtain ⟨b1, f1, ea, hb1, hc1⟩ := (unhide HR).at hpos
  have HC1 := hide hc1
  subst ea
  clear hc1 HR
  go_wp2_with fail
  go_loopw [7, 8] (fun v i wr => ∃ (k t : Nat) (da : Option Addr) (dc : Nat), k ≤ N / 2 ∧ t = 2 * k ∧ i = .int .i64 t ∧ v = .slice da k dc ∧ wr.ownsRow w1.heap.size 5 1 (.slice da k dc) k (((pkB q).take k).map (Value.int .u8)) ∧ Below w1.heap.size w1 wr) (fun _ i _ => N - (intOf i).toNat)
  case atStart => exact ⟨0, 0, _, _, Nat.zero_le _, rfl, rfl, rfl, unhide HO, below_alloc _ _⟩
  case round =>
    obtain ⟨k, t, da, dc, hk, ht, rfl, rfl, hown, hbel⟩ := hrel
    clear HO
    by_cases hlt : t + 1 < N
    · have c0 : w1.cell? ⟨b1, f1 + t, none⟩ = some (.int .i64 (q.getD t 0)) := (unhide HC1) t (by omega)
      have c9 : w1.cell? ⟨b1, f1 + (t + 1), none⟩ = some (.int .i64 (q.getD (t + 1) 0)) := (unhide HC1) (t + 1) (by omega)
      have x0 := (unhide HAT) t (by omega)
      have x1 := (unhide HAT) (t + 1) (by omega)
      have HS := (unhide HSN) k (by omega)
      rw [← ht] at HS
      have HS := hide HS
      obtain ⟨s, hs⟩ : ∃ s, s = t + 1 := ⟨_, rfl⟩
      rw [← hs] at c9 x1 HS
      generalize q.getD t 0 = x at c0 x0 HS
      generalize q.getD s 0 = y at c9 x1 HS
      have d0 := (hbel.cell hb1).trans c0
      have d1 := (hbel.cell hb1).trans c9
      have hz := hbel.size
      have e1 : IntKind.i64.wrap (x * 16) = x * 16 := i64_up _ (by omega) (by omega)
      have e2 : IntKind.i64.wrap (x * 16 + y) = x * 16 + y := i64_up _ (by omega) (by omega)
      have e3 : IntKind.u8.wrap (x * 16 + y) = x * 16 + y := u8_up _ (by omega) (by omega)
      have i1 : (0 : Int) ≤ (t : Int) := by omega
      have i2 : (t : Int) < (N : Int) := by omega
      have i3 : (t : Int) + 1 = (s : Int) := by omega
      have i4 : (0 : Int) ≤ (s : Int) := by omega
      have i5 : (s : Int) < (N : Int) := by omega
      have i6 : IntKind.i64.wrap (s : Int) = (s : Int) := i64_up _ (by omega) (by omega)
      have hsn : s < N := by omega
      have HCW := hide (And.intro c0 c9)
      have HBE := hide hbel
      have HT := hide ht
      clear hbel c0 c9 ht hs hlt
      go_wp2_with fail
      go_region_held3 (fun w' => w'.cell? ⟨b1, f1 + t, none⟩ = some (.int .i64 x) ∧ w'.cell? ⟨b1, f1 + s, none⟩ = some (.int .i64 y)) (first | go_keep | assumption) ((refine step_append_lies _ (by rfl) (.tmp 30) (.tmp 43) 22 (by rfl) w1.heap.size 5 j0 (.int .u8 0) 1 1 Try.underlying22 hj hy0 hy1 hy2 rfl (by decide) _ _ _ (by rfl) (by first | exact hown.alloc _ | exact (hown.alloc _).drew) ⟨wr.heap.size, 0, none⟩ 1 1 [.int .u8 (x * 16 + y)] (by rfl) rfl (by exact new1b _ _ _) (by simp [Value.oneCell']) (by omega) (by unfold maxLen; omega) (by omega) (by simp; omega) _ rfl ?_; intro g cap2 w2 hown2 hgrow2 hat2 hlt2; have hb2 : Below w1.heap.size w1 w2 := (((unhide HBE).alloc (by omega) _).drew).grown hgrow2 (by simp; omega) (fun q e => (hown.lt q e).1); have hS2 := And.intro ((hb2.cell hb1).trans (unhide HCW).1) ((hb2.cell hb1).trans (unhide HCW).2)))
      have ho2 : w2.ownsRow w1.heap.size 5 1 (.slice (some ⟨g, 0, none⟩) (k + 1) cap2) (k + 1) (((pkB q).take (k + 1)).map (Value.int .u8)) := by
        rw [unhide HS, List.map_append, show 16 * x + y = x * 16 + y from by omega]
        exact hown2
      have HB2 := hide hb2
      have HO2 := hide ho2
      clear hb2 ho2 hown2 hgrow2 hown hS2
      go_wp2_with fail
      go_roundw
      case rel => exact ⟨k + 1, t + 2, some ⟨g, 0, none⟩, cap2, by have := unhide HT; omega, by have := unhide HT; omega, by go_num, rfl, unhide HO2, unhide HB2⟩
      case measure => simp [intOf]; omega
    · obtain rfl : t = N := by omega
      obtain rfl : k = t / 2 := by omega
      rw [List.take_of_length_le (by omega)] at hown
      have HBE := hide hbel
      have hno : ¬ ((t : Int) + 1 < (t : Int)) := by omega
      have hno2 : decide ((t : Int) + 1 < (t : Int)) = false := decide_eq_false hno
      clear hbel ht
      go_wp2_with fail
      go_ret
      exact ⟨_, _, rfl, ownsRow_base hown s1, (unhide HB).trans ((unhide HBE).mono s1)⟩

set_option maxHeartbeats 2000000 in
theorem l13Path_n0 (a : Option Addr) (n cap : Nat) (p : List Int) (w : World) (h : IRow w a n p) (hcap : a = none → cap = 0) (hn : n ≤ 1000) (ha : p.all isH = true) (hev : n % 2 = 0) (q : List Int) (hq : q = [0, 0] ++ p) (N : Nat) (hN : N = 2 + n) :
    Calls Try.prog 46 #[.slice a n cap, .bool false] w fun e w' => ∃ a' c', e = .returned (.slice a' (N / 2) c') ∧
      w'.ownsRow w.heap.size 5 1 (.slice a' (N / 2) c') (N / 2) ((pkB q).map (Value.int .u8)) ∧ Below w.heap.size w w' := by
  obtain ⟨i0, hi, hz0, hz1, hz2⟩ := info_parts info2
  obtain ⟨j0, hj, hy0, hy1, hy2⟩ := info_parts info5
  have hpl := h.1
  have hpar : (((n : Nat) : Int) % 2 == 1) = false := by rw [beq_eq_false_iff_ne]; omega
  have HX := hide h
  have hall : q.all isH = true := by rw [hq, List.all_append, ha]; decide
  have hlen : q.length = N := by rw [hq, List.length_append, hpl, hN]; rfl
  have hpk := pkB_length q
  rw [hlen] at hpk
  have hN2 : N % 2 = 0 := by omega
  have hNn : N ≤ 1002 := by omega
  have hpos : 0 < N := by omega
  have HQ := hide hq
  have HN := hide hN
  clear hq hN
  have HAT := hide (fun k hk => all_at hall (k := k) hk)
  have HSN := hide (pkB_snoc q)
  have HCP := hide hcap
  have HL := hide (World.ownsRow_lit (size := 1) (e := 2) (base := w.heap.size) w #[.int .i64 0, .int .i64 0] 2 (Nat.le_refl _) (by unfold maxLen; omega) rfl)
  clear h hall hcap ha
  go_enter Try.func46, Try.ntmps46
  go_wp2_with (at_builtin; refine wpList_append_irow _ rfl _ _ 25 rfl w.heap.size i0 Try.underlying25 hi hz0 hz1 hz2 _ 2 [0, 0] rfl (by exact unhide HL) a n cap p rfl (by first | exact (unhide HX).below (below_alloc w _) (Nat.le_refl _) | exact ((unhide HX).below (below_alloc w _) (Nat.le_refl _)).below (below_alloc _ _) (Nat.le_refl _)) (unhide HCP) (by omega) (by simp; try omega) ?_)
  intro a1 c1 w1 o1 g1
  have B1 : Below w.heap.size w w1 := by
    first
    | exact (below_alloc w _).grown g1 (by simp) (fun g e => by simp [Value.ownBlock] at e; omega)
    | exact ((below_alloc w _).alloc (by simp) _).grown g1 (by simp; omega) (fun g e => by simp [Value.ownBlock] at e; omega)
  clear g1
  have o1 : w1.ownsRow w.heap.size 2 1 (.slice a1 N c1) N (q.map (Value.int .i64)) := by rw [unhide HQ, unhide HN]; exact o1
  rw [← unhide HN]
  have R1 := IRow.own2 o1
  have s1 := B1.size
  have o2 : (w1.alloc (.cells #[] 5)).ownsRow w1.heap.size 5 1 (.slice (some ⟨w1.heap.size, 0, none⟩) 0 0) 0 (((pkB q).take 0).map (Value.int .u8)) := by
    have := World.ownsRow_lit (size := 1) (e := 5) (base := w1.heap.size) w1 #[] 0 (Nat.le_refl _) (by unfold maxLen; omega) rfl
    simpa using this
  have HO := hide o2
  have HR := hide R1
  have HB := hide B1
  clear o1 o2 R1 B1 HL HX
  obtain ⟨b1, f1, ea, hb1, hc1⟩ := (unhide HR).at hpos
  have HC1 := hide hc1
  subst ea
  clear hc1 HR
  go_wp2_with fail
  go_loopw [7, 8] (fun v i wr => ∃ (k t : Nat) (da : Option Addr) (dc : Nat), k ≤ N / 2 ∧ t = 2 * k ∧ i = .int .i64 t ∧ v = .slice da k dc ∧ wr.ownsRow w1.heap.size 5 1 (.slice da k dc) k (((pkB q).take k).map (Value.int .u8)) ∧ Below w1.heap.size w1 wr) (fun _ i _ => N - (intOf i).toNat)
  case atStart => exact ⟨0, 0, _, _, Nat.zero_le _, rfl, rfl, rfl, unhide HO, below_alloc _ _⟩
  case round =>
    obtain ⟨k, t, da, dc, hk, ht, rfl, rfl, hown, hbel⟩ := hrel
    clear HO
    by_cases hlt : t + 1 < N
    · have c0 : w1.cell? ⟨b1, f1 + t, none⟩ = some (.int .i64 (q.getD t 0)) := (unhide HC1) t (by omega)
      have c9 : w1.cell? ⟨b1, f1 + (t + 1), none⟩ = some (.int .i64 (q.getD (t + 1) 0)) := (unhide HC1) (t + 1) (by omega)
      have x0 := (unhide HAT) t (by omega)
      have x1 := (unhide HAT) (t + 1) (by omega)
      have HS := (unhide HSN) k (by omega)
      rw [← ht] at HS
      have HS := hide HS
      obtain ⟨s, hs⟩ : ∃ s, s = t + 1 := ⟨_, rfl⟩
      rw [← hs] at c9 x1 HS
      generalize q.getD t 0 = x at c0 x0 HS
      generalize q.getD s 0 = y at c9 x1 HS
      have d0 := (hbel.cell hb1).trans c0
      have d1 := (hbel.cell hb1).trans c9
      have hz := hbel.size
      have e1 : IntKind.i64.wrap (x * 16) = x * 16 := i64_up _ (by omega) (by omega)
      have e2 : IntKind.i64.wrap (x * 16 + y) = x * 16 + y := i64_up _ (by omega) (by omega)
      have e3 : IntKind.u8.wrap (x * 16 + y) = x * 16 + y := u8_up _ (by omega) (by omega)
      have i1 : (0 : Int) ≤ (t : Int) := by omega
      have i2 : (t : Int) < (N : Int) := by omega
      have i3 : (t : Int) + 1 = (s : Int) := by omega
      have i4 : (0 : Int) ≤ (s : Int) := by omega
      have i5 : (s : Int) < (N : Int) := by omega
      have i6 : IntKind.i64.wrap (s : Int) = (s : Int) := i64_up _ (by omega) (by omega)
      have hsn : s < N := by omega
      have HCW := hide (And.intro c0 c9)
      have HBE := hide hbel
      have HT := hide ht
      clear hbel c0 c9 ht hs hlt
      go_wp2_with fail
      go_region_held3 (fun w' => w'.cell? ⟨b1, f1 + t, none⟩ = some (.int .i64 x) ∧ w'.cell? ⟨b1, f1 + s, none⟩ = some (.int .i64 y)) (first | go_keep | assumption) ((refine step_append_lies _ (by rfl) (.tmp 30) (.tmp 43) 22 (by rfl) w1.heap.size 5 j0 (.int .u8 0) 1 1 Try.underlying22 hj hy0 hy1 hy2 rfl (by decide) _ _ _ (by rfl) (by first | exact hown.alloc _ | exact (hown.alloc _).drew) ⟨wr.heap.size, 0, none⟩ 1 1 [.int .u8 (x * 16 + y)] (by rfl) rfl (by exact new1b _ _ _) (by simp [Value.oneCell']) (by omega) (by unfold maxLen; omega) (by omega) (by simp; omega) _ rfl ?_; intro g cap2 w2 hown2 hgrow2 hat2 hlt2; have hb2 : Below w1.heap.size w1 w2 := (((unhide HBE).alloc (by omega) _).drew).grown hgrow2 (by simp; omega) (fun q e => (hown.lt q e).1); have hS2 := And.intro ((hb2.cell hb1).trans (unhide HCW).1) ((hb2.cell hb1).trans (unhide HCW).2)))
      have ho2 : w2.ownsRow w1.heap.size 5 1 (.slice (some ⟨g, 0, none⟩) (k + 1) cap2) (k + 1) (((pkB q).take (k + 1)).map (Value.int .u8)) := by
        rw [unhide HS, List.map_append, show 16 * x + y = x * 16 + y from by omega]
        exact hown2
      have HB2 := hide hb2
      have HO2 := hide ho2
      clear hb2 ho2 hown2 hgrow2 hown hS2
      go_wp2_with fail
      go_roundw
      case rel => exact ⟨k + 1, t + 2, some ⟨g, 0, none⟩, cap2, by have := unhide HT; omega, by have := unhide HT; omega, by go_num, rfl, unhide HO2, unhide HB2⟩
      case measure => simp [intOf]; omega
    · obtain rfl : t = N := by omega
      obtain rfl : k = t / 2 := by omega
      rw [List.take_of_length_le (by omega)] at hown
      have HBE := hide hbel
      have hno : ¬ ((t : Int) + 1 < (t : Int)) := by omega
      have hno2 : decide ((t : Int) + 1 < (t : Int)) = false := decide_eq_false hno
      clear hbel ht
      go_wp2_with fail
      go_ret
      exact ⟨_, _, rfl, ownsRow_base hown s1, (unhide HB).trans ((unhide HBE).mono s1)⟩

set_option maxHeartbeats 2000000 in
theorem l13Path_n1 (a : Option Addr) (n cap : Nat) (p : List Int) (w : World) (h : IRow w a n p) (hcap : a = none → cap = 0) (hn : n ≤ 1000) (ha : p.all isH = true) (hev : n % 2 = 1) (q : List Int) (hq : q = [1] ++ p) (N : Nat) (hN : N = 1 + n) :
    Calls Try.prog 46 #[.slice a n cap, .bool false] w fun e w' => ∃ a' c', e = .returned (.slice a' (N / 2) c') ∧
      w'.ownsRow w.heap.size 5 1 (.slice a' (N / 2) c') (N / 2) ((pkB q).map (Value.int .u8)) ∧ Below w.heap.size w w' := by
  obtain ⟨i0, hi, hz0, hz1, hz2⟩ := info_parts info2
  obtain ⟨j0, hj, hy0, hy1, hy2⟩ := info_parts info5
  have hpl := h.1
  have hpar : (((n : Nat) : Int) % 2 == 1) = true := by rw [beq_iff_eq]; omega
  have HX := hide h
  have hall : q.all isH = true := by rw [hq, List.all_append, ha]; decide
  have hlen : q.length = N := by rw [hq, List.length_append, hpl, hN]; rfl
  have hpk := pkB_length q
  rw [hlen] at hpk
  have hN2 : N % 2 = 0 := by omega
  have hNn : N ≤ 1002 := by omega
  have hpos : 0 < N := by omega
  have HQ := hide hq
  have HN := hide hN
  clear hq hN
  have HAT := hide (fun k hk => all_at hall (k := k) hk)
  have HSN := hide (pkB_snoc q)
  have HCP := hide hcap
  have HL : Hid (∀ o, ((w.alloc o).alloc (.cells #[.int .i64 1] 2)).ownsRow w.heap.size 2 1 (.slice (some ⟨w.heap.size + 1, 0, none⟩) 1 1) 1 [.int .i64 1]) := fun o => by
    have := World.ownsRow_lit (size := 1) (e := 2) (base := w.heap.size) (w.alloc o) #[.int .i64 1] 1 (by simp) (by unfold maxLen; omega) rfl
    simpa using this
  clear h hall hcap ha
  go_enter Try.func46, Try.ntmps46
  go_wp2_with (at_builtin; refine wpList_append_irow _ rfl _ _ 25 rfl w.heap.size i0 Try.underlying25 hi hz0 hz1 hz2 _ 1 [1] rfl (by exact (unhide HL) _) a n cap p rfl (by first | exact (unhide HX).below (below_alloc w _) (Nat.le_refl _) | exact ((unhide HX).below (below_alloc w _) (Nat.le_refl _)).below (below_alloc _ _) (Nat.le_refl _)) (unhide HCP) (by omega) (by simp; try omega) ?_)
  intro a1 c1 w1 o1 g1
  have B1 : Below w.heap.size w w1 := by
    first
    | exact (below_alloc w _).grown g1 (by simp) (fun g e => by simp [Value.ownBlock] at e; omega)
    | exact ((below_alloc w _).alloc (by simp) _).grown g1 (by simp; omega) (fun g e => by simp [Value.ownBlock] at e; omega)
  clear g1
  have o1 : w1.ownsRow w.heap.size 2 1 (.slice a1 N c1) N (q.map (Value.int .i64)) := by rw [unhide HQ, unhide HN]; exact o1
  rw [← unhide HN]
  have R1 := IRow.own2 o1
  have s1 := B1.size
  have o2 : (w1.alloc (.cells #[] 5)).ownsRow w1.heap.size 5 1 (.slice (some ⟨w1.heap.size, 0, none⟩) 0 0) 0 (((pkB q).take 0).map (Value.int .u8)) := by
    have := World.ownsRow_lit (size := 1) (e := 5) (base := w1.heap.size) w1 #[] 0 (Nat.le_refl _) (by unfold maxLen; omega) rfl
    simpa using this
  have HO := hide o2
  have HR := hide R1
  have HB := hide B1
  clear o1 o2 R1 B1 HL HX
  obtain ⟨b1, f1, ea, hb1, hc1⟩ := (unhide HR).at hpos
  have HC1 := hide hc1
  subst ea
  clear hc1 HR
  go_wp2_with fail
  go_loopw [7, 8] (fun v i wr => ∃ (k t : Nat) (da : Option Addr) (dc : Nat), k ≤ N / 2 ∧ t = 2 * k ∧ i = .int .i64 t ∧ v = .slice da k dc ∧ wr.ownsRow w1.heap.size 5 1 (.slice da k dc) k (((pkB q).take k).map (Value.int .u8)) ∧ Below w1.heap.size w1 wr) (fun _ i _ => N - (intOf i).toNat)
  case atStart => exact ⟨0, 0, _, _, Nat.zero_le _, rfl, rfl, rfl, unhide HO, below_alloc _ _⟩
  case round =>
    obtain ⟨k, t, da, dc, hk, ht, rfl, rfl, hown, hbel⟩ := hrel
    clear HO
    by_cases hlt : t + 1 < N
    · have c0 : w1.cell? ⟨b1, f1 + t, none⟩ = some (.int .i64 (q.getD t 0)) := (unhide HC1) t (by omega)
      have c9 : w1.cell? ⟨b1, f1 + (t + 1), none⟩ = some (.int .i64 (q.getD (t + 1) 0)) := (unhide HC1) (t + 1) (by omega)
      have x0 := (unhide HAT) t (by omega)
      have x1 := (unhide HAT) (t + 1) (by omega)
      have HS := (unhide HSN) k (by omega)
      rw [← ht] at HS
      have HS := hide HS
      obtain ⟨s, hs⟩ : ∃ s, s = t + 1 := ⟨_, rfl⟩
      rw [← hs] at c9 x1 HS
      generalize q.getD t 0 = x at c0 x0 HS
      generalize q.getD s 0 = y at c9 x1 HS
      have d0 := (hbel.cell hb1).trans c0
      have d1 := (hbel.cell hb1).trans c9
      have hz := hbel.size
      have e1 : IntKind.i64.wrap (x * 16) = x * 16 := i64_up _ (by omega) (by omega)
      have e2 : IntKind.i64.wrap (x * 16 + y) = x * 16 + y := i64_up _ (by omega) (by omega)
      have e3 : IntKind.u8.wrap (x * 16 + y) = x * 16 + y := u8_up _ (by omega) (by omega)
      have i1 : (0 : Int) ≤ (t : Int) := by omega
      have i2 : (t : Int) < (N : Int) := by omega
      have i3 : (t : Int) + 1 = (s : Int) := by omega
      have i4 : (0 : Int) ≤ (s : Int) := by omega
      have i5 : (s : Int) < (N : Int) := by omega
      have i6 : IntKind.i64.wrap (s : Int) = (s : Int) := i64_up _ (by omega) (by omega)
      have hsn : s < N := by omega
      have HCW := hide (And.intro c0 c9)
      have HBE := hide hbel
      have HT := hide ht
      clear hbel c0 c9 ht hs hlt
      go_wp2_with fail
      go_region_held3 (fun w' => w'.cell? ⟨b1, f1 + t, none⟩ = some (.int .i64 x) ∧ w'.cell? ⟨b1, f1 + s, none⟩ = some (.int .i64 y)) (first | go_keep | assumption) ((refine step_append_lies _ (by rfl) (.tmp 30) (.tmp 43) 22 (by rfl) w1.heap.size 5 j0 (.int .u8 0) 1 1 Try.underlying22 hj hy0 hy1 hy2 rfl (by decide) _ _ _ (by rfl) (by first | exact hown.alloc _ | exact (hown.alloc _).drew) ⟨wr.heap.size, 0, none⟩ 1 1 [.int .u8 (x * 16 + y)] (by rfl) rfl (by exact new1b _ _ _) (by simp [Value.oneCell']) (by omega) (by unfold maxLen; omega) (by omega) (by simp; omega) _ rfl ?_; intro g cap2 w2 hown2 hgrow2 hat2 hlt2; have hb2 : Below w1.heap.size w1 w2 := (((unhide HBE).alloc (by omega) _).drew).grown hgrow2 (by simp; omega) (fun q e => (hown.lt q e).1); have hS2 := And.intro ((hb2.cell hb1).trans (unhide HCW).1) ((hb2.cell hb1).trans (unhide HCW).2)))
      have ho2 : w2.ownsRow w1.heap.size 5 1 (.slice (some ⟨g, 0, none⟩) (k + 1) cap2) (k + 1) (((pkB q).take (k + 1)).map (Value.int .u8)) := by
        rw [unhide HS, List.map_append, show 16 * x + y = x * 16 + y from by omega]
        exact hown2
      have HB2 := hide hb2
      have HO2 := hide ho2
      clear hb2 ho2 hown2 hgrow2 hown hS2
      go_wp2_with fail
      go_roundw
      case rel => exact ⟨k + 1, t + 2, some ⟨g, 0, none⟩, cap2, by have := unhide HT; omega, by have := unhide HT; omega, by go_num, rfl, unhide HO2, unhide HB2⟩
      case measure => simp [intOf]; omega
    · obtain rfl : t = N := by omega
      obtain rfl : k = t / 2 := by omega
      rw [List.take_of_length_le (by omega)] at hown
      have HBE := hide hbel
      have hno : ¬ ((t : Int) + 1 < (t : Int)) := by omega
      have hno2 : decide ((t : Int) + 1 < (t : Int)) = false := decide_eq_false hno
      clear hbel ht
      go_wp2_with fail
      go_ret
      exact ⟨_, _, rfl, ownsRow_base hown s1, (unhide HB).trans ((unhide HBE).mono s1)⟩

theorem l13Path_any (a : Option Addr) (n cap : Nat) (p : List Int) (e : Bool) (w : World) (h : IRow w a n p) (hcap : a = none → cap = 0) (hn : n ≤ 1000) (ha : p.all isH = true) :
    Calls Try.prog 46 #[.slice a n cap, .bool e] w fun e' w' => ∃ a' c', e' = .returned (.slice a' (pkB (phd n e ++ p)).length c') ∧
      w'.ownsRow w.heap.size 5 1 (.slice a' (pkB (phd n e ++ p)).length c') (pkB (phd n e ++ p)).length ((pkB (phd n e ++ p)).map (Value.int .u8)) ∧ Below w.heap.size w w' := by
  have hl : (pkB (phd n e ++ p)).length = (2 - n % 2 + n) / 2 := by rw [pkB_length, List.length_append, phd_length, h.1]
  rw [hl]
  by_cases hev : n % 2 = 0
  · cases e
    · exact l13Path_n0 a n cap p w h hcap hn ha hev _ (by unfold phd; rw [if_pos hev]; rfl) _ (by omega)
    · exact l13Path_e0 a n cap p w h hcap hn ha hev _ (by unfold phd; rw [if_pos hev]; rfl) _ (by omega)
  · cases e
    · exact l13Path_n1 a n cap p w h hcap hn ha (by omega) _ (by unfold phd; rw [if_neg hev]; rfl) _ (by omega)
    · exact l13Path_e1 a n cap p w h hcap hn ha (by omega) _ (by unfold phd; rw [if_neg hev]; rfl) _ (by omega)

end Go.Proofs.Ytihdmdbekdadlaa

/- What is proved here: what the model's PackPath answers: the code and the bytes of a path, in new memory. -/
namespace Go.Proofs.Ytihdmdbekdadlaa
open Go.RowKit
set_option linter.unusedVariables false
set_option maxRecDepth 100000

theorem isH_dec (v : Int) : decide (0 ≤ v ∧ v ≤ 15) = isH v := rfl

theorem all_no {p : List Int} {k : Nat} (hk : k < p.length) (h : isH (p.getD k 0) = false) : p.all isH = false := by
  rw [getD_at _ _ hk] at h
  cases hh : p.all isH
  · rfl
  · have := List.all_eq_true.1 hh _ (List.getElem_mem hk)
    rw [h] at this
    exact this.symm

theorem all_take_succ {p : List Int} {k : Nat} (hk : k < p.length) (h0 : (p.take k).all isH = true) (h : isH (p.getD k 0) = true) : (p.take (k + 1)).all isH = true := by
  rw [getD_at _ _ hk] at h
  rw [List.take_succ_eq_append_getElem hk, List.all_append, h0]
  simp [h]

set_option maxHeartbeats 2000000 in
theorem specPack_any (a : Option Addr) (n cap : Nat) (p : List Int) (e : Bool) (w : World) (h : IRow w a n p) (hcap : a = none → cap = 0) (hn : n ≤ 1048576) :
    Calls Try.prog 14 #[.slice a n cap, .bool e] w fun e' w' => ∃ a' c', e' = .returned (.agg #[.int .i64 (ppCode p), .slice a' (ppB p e).length c']) ∧
      w'.ownsRow w.heap.size 5 1 (.slice a' (ppB p e).length c') (ppB p e).length ((ppB p e).map (Value.int .u8)) ∧ Below w.heap.size w w' := by
  have hpl := h.1
  by_cases hm : 20 < n
  · have e1 : ppCode p = 2 := if_pos (by omega)
    have e2 : ppB p e = [] := by unfold ppB; rw [e1]; rfl
    rw [e1, e2]
    clear h e1 e2 hcap
    go_enter Try.func14, Try.ntmps14
    go_wp2_with fail
    exact bodyPost_ret (v := .agg #[.int .i64 2, .slice none 0 0]) (by simp [results, Try.results14, go_sem]) rfl ⟨none, 0, rfl, World.ownsRow_nil _ _ _ _, (Below.refl _ _).alloc (Nat.le_refl _) _⟩
  · have HX := hide (fun o => h.below (below_alloc w o) (Nat.le_refl _))
    have HCP := hide hcap
    clear h hcap
    have HC0 : Hid (p.all isH = true → ppCode p = 0 ∧ ppB p e = pkB (phd n e ++ p)) := fun hh => by
      have q : ppCode p = 0 := by unfold ppCode; rw [if_neg (by omega), hh]; rfl
      exact ⟨q, by unfold ppB; rw [if_pos q, hpl]⟩
    have HC3 : Hid (p.all isH = false → ppCode p = 3 ∧ ppB p e = []) := fun hh => by
      have q : ppCode p = 3 := by unfold ppCode; rw [if_neg (by omega), hh]; rfl
      exact ⟨q, by unfold ppB; rw [q]; rfl⟩
    obtain ⟨cd, hcd⟩ : ∃ cd, cd = ppCode p := ⟨_, rfl⟩
    obtain ⟨bs, hbs⟩ : ∃ bs, bs = ppB p e := ⟨_, rfl⟩
    rw [← hcd] at HC0 HC3 ⊢
    rw [← hbs] at HC0 HC3 ⊢
    clear hcd hbs
    have hw : Hid (∀ o, (w.alloc o).heap.size = w.heap.size + 1) := fun o => by simp
    go_enter Try.func14, Try.ntmps14
    go_wp2_with fail
    go_loopw [5] (fun i wr => ∃ k : Nat, k ≤ n ∧ i = .int .i64 k ∧ (p.take k).all isH = true ∧ wr = w.alloc (.cells #[.int .i64 0, .slice none 0 0] 31)) (fun i _ => n - (intOf i).toNat)
    case atStart => exact ⟨0, Nat.zero_le _, rfl, rfl, rfl⟩
    case round =>
      obtain ⟨k, hk, rfl, hall, rfl⟩ := hrel
      by_cases hlt : k < n
      · obtain ⟨b, off, rfl, hb, hc⟩ := ((unhide HX) (.cells #[.int .i64 0, .slice none 0 0] 31)).at (by omega)
        have hck := hc k hlt
        have HN := hide (all_no (p := p) (k := k) (by omega))
        have HY := hide (all_take_succ (p := p) (k := k) (by omega) hall)
        generalize p.getD k 0 = x at hck HN HY
        have i1 : (0 : Int) ≤ (k : Int) := by omega
        have i2 : (k : Int) < (n : Int) := by omega
        clear hc hall
        go_wp2_with fail
        refine (in_any x 0 15 _).mono ?_
        rintro e1 w1 ⟨rfl, rfl⟩
        rw [isH_dec]
        cases hx : isH x
        · obtain ⟨rfl, rfl⟩ := (unhide HC3) ((unhide HN) hx)
          clear HC3 HC0 HN HY hck
          go_wp2_with fail
          exact bodyPost_ret (v := .agg #[.int .i64 3, .slice none 0 0]) (by simp [results, Try.results14, go_sem]) rfl ⟨none, 0, rfl, World.ownsRow_nil _ _ _ _, (Below.refl _ _).alloc (Nat.le_refl _) _⟩
        · have HT := hide ((unhide HY) hx)
          clear HN HY hck
          go_wp2_with fail
          go_roundw
          case rel => exact ⟨k + 1, by omega, by go_num, unhide HT, (by first | rfl | trivial)⟩
          case measure => simp [intOf]; omega
      · obtain rfl : k = n := by omega
        rw [List.take_of_length_le (by omega)] at hall
        obtain ⟨rfl, hbs⟩ := (unhide HC0) hall
        have HC := hide (l13Path_any a k cap p e _ ((unhide HX) (.cells #[.int .i64 0, .slice none 0 0] 31)) (unhide HCP) (by omega) hall)
        rw [← hbs] at HC
        clear hbs hall HC0 HC3
        go_wp2_with fail
        refine (unhide HC).mono ?_
        rintro e1 w2 ⟨a2, c2, rfl, hown, hbel⟩
        have hsz : (w.alloc (.cells #[.int .i64 0, .slice none 0 0] 31)).heap.size = w.heap.size + 1 := by simp
        rw [hsz] at hown hbel
        have q0 : w2.cell? ⟨w.heap.size, 0, none⟩ = some (.int .i64 0) := (hbel.cell (by simp)).trans (by simp)
        have q1 : w2.cell? ⟨w.heap.size, 1, none⟩ = some (.slice none 0 0) := (hbel.cell (by simp)).trans (by simp)
        have f0 : w2.frozen? ⟨w.heap.size, 0, none⟩ = false := (hbel.frozen (by simp)).trans (by simp)
        have f1 : w2.frozen? ⟨w.heap.size, 1, none⟩ = false := (hbel.frozen (by simp)).trans (by simp)
        have hb2 : Below w.heap.size w w2 := ((Below.refl _ _).alloc (Nat.le_refl _) _).trans (hbel.mono (by omega))
        have HB := hide hb2
        have HO := hide hown
        clear hb2 hown hbel hsz HC HX
        go_wp2_with fail
        refine bodyPost_ret (v := .agg #[.int .i64 0, .slice a2 bs.length c2]) (by simp [results, Try.results14, go_sem, q0, q1]) rfl ⟨_, c2, rfl, ?_, ?_⟩
        · exact ownsRow_base (ownsRow_setCell_below (ownsRow_setCell_below (unhide HO) (by simp) _) (by simp) _) (by omega)
        · exact ((unhide HB).setCell (by simp) _).setCell (by simp) _

end Go.Proofs.Ytihdmdbekdadlaa
