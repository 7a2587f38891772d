/- What is proved here: what the model's l13Path and PackPath answer: the bytes of a path, in new memory. -/
import Derived.Test.YtihdmdbekdadlaaJ2
import Derived.Test.YtihdmdbekdadlaaJ1
import Derived.OpenShut
namespace Go.Proofs.Ytihdmdbekdadlaa
open Go.RowKit
set_option linter.unusedVariables false
set_option maxRecDepth 100000

theorem u8_up (n : Int) (h0 : 0 ≤ n) (h1 : n ≤ 255) : IntKind.u8.wrap n = n := by rw [IntKind.wrap_u8]; omega

theorem new1b (w : World) (x : Value) (t : TypeId) : ∀ (j : Nat) (u : Value), [x][j]? = some u → (w.alloc (.cells #[x] t)).cell? ((⟨w.heap.size, 0, none⟩ : Addr).add j) = some u := by
  intro j u hj
  rw [add_none, Nat.zero_add, World.cell?_alloc_new]
  match j, hj with
  | 0, hj => simpa using hj

set_option maxHeartbeats 2000000 in
theorem l13Path_e0 (a : Option Addr) (n cap : Nat) (p : List Int) (w : World) (h : IRow w a n p) (hcap : a = none → cap = 0) (hn : n ≤ 1000) (ha : p.all isH = true) (hev : n % 2 = 0) (q : List Int) (hq : q = [2, 0] ++ p) (N : Nat) (hN : N = 2 + n) :
    Calls Try.prog 46 #[.slice a n cap, .bool true] w fun e w' => ∃ a' c', e = .returned (.slice a' (N / 2) c') ∧
      w'.ownsRow w.heap.size 5 1 (.slice a' (N / 2) c') (N / 2) ((pkB q).map (Value.int .u8)) ∧ Below w.heap.size w w' := by
  obtain ⟨i0, hi, hz0, hz1, hz2⟩ := info_parts info2
  obtain ⟨j0, hj, hy0, hy1, hy2⟩ := info_parts info5
  have hpl := h.1
  have hpar : (((n : Nat) : Int) % 2 == 1) = false := by rw [beq_eq_false_iff_ne]; omega
  have HX := hide h
  have hall : q.all isH = true := by rw [hq, List.all_append, ha]; decide
  have hlen : q.length = N := by rw [hq, List.length_append, hpl, hN]; rfl
  have hpk := pkB_length q
  rw [hlen] at hpk
  have hN2 : N % 2 = 0 := by omega
  have hNn : N ≤ 1002 := by omega
  have hpos : 0 < N := by omega
  have HQ := hide hq
  have HN := hide hN
  clear hq hN
  have HAT := hide (fun k hk => all_at hall (k := k) hk)
  have HSN := hide (pkB_snoc q)
  have HCP := hide hcap
  have HL := hide (World.ownsRow_lit (size := 1) (e := 2) (base := w.heap.size) w #[.int .i64 2, .int .i64 0] 2 (Nat.le_refl _) (by unfold maxLen; omega) rfl)
  clear h hall hcap ha
  go_enter Try.func46, Try.ntmps46
  go_wp2_with (at_builtin; refine wpList_append_irow _ rfl _ _ 25 rfl w.heap.size i0 Try.underlying25 hi hz0 hz1 hz2 _ 2 [2, 0] rfl (by exact unhide HL) a n cap p rfl (by first | exact (unhide HX).below (below_alloc w _) (Nat.le_refl _) | exact ((unhide HX).below (below_alloc w _) (Nat.le_refl _)).below (below_alloc _ _) (Nat.le_refl _)) (unhide HCP) (by omega) (by simp; try omega) ?_)
  intro a1 c1 w1 o1 g1
  have B1 : Below w.heap.size w w1 := by
    first
    | exact (below_alloc w _).grown g1 (by simp) (fun g e => by simp [Value.ownBlock] at e; omega)
    | exact ((below_alloc w _).alloc (by simp) _).grown g1 (by simp; omega) (fun g e => by simp [Value.ownBlock] at e; omega)
  clear g1
  have o1 : w1.ownsRow w.heap.size 2 1 (.slice a1 N c1) N (q.map (Value.int .i64)) := by rw [unhide HQ, unhide HN]; exact o1
  rw [← unhide HN]
  have R1 := IRow.own2 o1
  have s1 := B1.size
  have o2 : (w1.alloc (.cells #[] 5)).ownsRow w1.heap.size 5 1 (.slice (some ⟨w1.heap.size, 0, none⟩) 0 0) 0 (((pkB q).take 0).map (Value.int .u8)) := by
    have := World.ownsRow_lit (size := 1) (e := 5) (base := w1.heap.size) w1 #[] 0 (Nat.le_refl _) (by unfold maxLen; omega) rfl
    simpa using this
  have HO := hide o2
  have HR := hide R1
  have HB := hide B1
  clear o1 o2 R1 B1 HL HX
  obtain ⟨b1, f1, ea, hb1, hc1⟩ := (unhide HR).at hpos
  have HC1 := hide hc1
  subst ea
  clear hc1 HR
  go_wp2_with fail
  go_loopw [7, 8] (fun v i wr => ∃ (k t : Nat) (da : Option Addr) (dc : Nat), k ≤ N / 2 ∧ t = 2 * k ∧ i = .int .i64 t ∧ v = .slice da k dc ∧ wr.ownsRow w1.heap.size 5 1 (.slice da k dc) k (((pkB q).take k).map (Value.int .u8)) ∧ Below w1.heap.size w1 wr) (fun _ i _ => N - (intOf i).toNat)
  case atStart => exact ⟨0, 0, _, _, Nat.zero_le _, rfl, rfl, rfl, unhide HO, below_alloc _ _⟩
  case round =>
    obtain ⟨k, t, da, dc, hk, ht, rfl, rfl, hown, hbel⟩ := hrel
    clear HO
    by_cases hlt : t + 1 < N
    · have c0 : w1.cell? ⟨b1, f1 + t, none⟩ = some (.int .i64 (q.getD t 0)) := (unhide HC1) t (by omega)
      have c9 : w1.cell? ⟨b1, f1 + (t + 1), none⟩ = some (.int .i64 (q.getD (t + 1) 0)) := (unhide HC1) (t + 1) (by omega)
      have x0 := (unhide HAT) t (by omega)
      have x1 := (unhide HAT) (t + 1) (by omega)
      have HS := (unhide HSN) k (by omega)
      rw [← ht] at HS
      have HS := hide HS
      obtain ⟨s, hs⟩ : ∃ s, s = t + 1 := ⟨_, rfl⟩
      rw [← hs] at c9 x1 HS
      generalize q.getD t 0 = x at c0 x0 HS
      generalize q.getD s 0 = y at c9 x1 HS
      have d0 := (hbel.cell hb1).trans c0
      have d1 := (hbel.cell hb1).trans c9
      have hz := hbel.size
      have e1 : IntKind.i64.wrap (x * 16) = x * 16 := i64_up _ (by omega) (by omega)
      have e2 : IntKind.i64.wrap (x * 16 + y) = x * 16 + y := i64_up _ (by omega) (by omega)
      have e3 : IntKind.u8.wrap (x * 16 + y) = x * 16 + y := u8_up _ (by omega) (by omega)
      have i1 : (0 : Int) ≤ (t : Int) := by omega
      have i2 : (t : Int) < (N : Int) := by omega
      have i3 : (t : Int) + 1 = (s : Int) := by omega
      have i4 : (0 : Int) ≤ (s : Int) := by omega
      have i5 : (s : Int) < (N : Int) := by omega
      have i6 : IntKind.i64.wrap (s : Int) = (s : Int) := i64_up _ (by omega) (by omega)
      have hsn : s < N := by omega
      have HCW := hide (And.intro c0 c9)
      have HBE := hide hbel
      have HT := hide ht
      clear hbel c0 c9 ht hs hlt
      go_wp2_with fail
      go_region_held3 (fun w' => w'.cell? ⟨b1, f1 + t, none⟩ = some (.int .i64 x) ∧ w'.cell? ⟨b1, f1 + s, none⟩ = some (.int .i64 y)) (first | go_keep | assumption) ((refine step_append_lies _ (by rfl) (.tmp 30) (.tmp 43) 22 (by rfl) w1.heap.size 5 j0 (.int .u8 0) 1 1 Try.underlying22 hj hy0 hy1 hy2 rfl (by decide) _ _ _ (by rfl) (by first | exact hown.alloc _ | exact (hown.alloc _).drew) ⟨wr.heap.size, 0, none⟩ 1 1 [.int .u8 (x * 16 + y)] (by rfl) rfl (by exact new1b _ _ _) (by simp [Value.oneCell']) (by omega) (by unfold maxLen; omega) (by omega) (by simp; omega) _ rfl ?_; intro g cap2 w2 hown2 hgrow2 hat2 hlt2; have hb2 : Below w1.heap.size w1 w2 := (((unhide HBE).alloc (by omega) _).drew).grown hgrow2 (by simp; omega) (fun q e => (hown.lt q e).1); have hS2 := And.intro ((hb2.cell hb1).trans (unhide HCW).1) ((hb2.cell hb1).trans (unhide HCW).2)))
      have ho2 : w2.ownsRow w1.heap.size 5 1 (.slice (some ⟨g, 0, none⟩) (k + 1) cap2) (k + 1) (((pkB q).take (k + 1)).map (Value.int .u8)) := by
        rw [unhide HS, List.map_append, show 16 * x + y = x * 16 + y from by omega]
        exact hown2
      have HB2 := hide hb2
      have HO2 := hide ho2
      clear hb2 ho2 hown2 hgrow2 hown hS2
      go_wp2_with fail
      go_roundw
      case rel => exact ⟨k + 1, t + 2, some ⟨g, 0, none⟩, cap2, by have := unhide HT; omega, by have := unhide HT; omega, by go_num, rfl, unhide HO2, unhide HB2⟩
      case measure => simp [intOf]; omega
    · obtain rfl : t = N := by omega
      obtain rfl : k = t / 2 := by omega
      rw [List.take_of_length_le (by omega)] at hown
      have HBE := hide hbel
      have hno : ¬ ((t : Int) + 1 < (t : Int)) := by omega
      have hno2 : decide ((t : Int) + 1 < (t : Int)) = false := decide_eq_false hno
      clear hbel ht
      go_wp2_with fail
      go_ret
      exact ⟨_, _, rfl, ownsRow_base hown s1, (unhide HB).trans ((unhide HBE).mono s1)⟩

set_option maxHeartbeats 2000000 in
theorem l13Path_e1 (a : Option Addr) (n cap : Nat) (p : List Int) (w : World) (h : IRow w a n p) (hcap : a = none → cap = 0) (hn : n ≤ 1000) (ha : p.all isH = true) (hev : n % 2 = 1) (q : List Int) (hq : q = [3] ++ p) (N : Nat) (hN : N = 1 + n) :
    Calls Try.prog 46 #[.slice a n cap, .bool true] w fun e w' => ∃ a' c', e = .returned (.slice a' (N / 2) c') ∧
      w'.ownsRow w.heap.size 5 1 (.slice a' (N / 2) c') (N / 2) ((pkB q).map (Value.int .u8)) ∧ Below w.heap.size w w' := by
  obtain ⟨i0, hi, hz0, hz1, hz2⟩ := info_parts info2
  obtain ⟨j0, hj, hy0, hy1, hy2⟩ := info_parts info5
  have hpl := h.1
  have hpar : (((n : Nat) : Int) % 2 == 1) = true := by rw [beq_iff_eq]; omega
  have HX := hide h
  have hall : q.all isH = true := by rw [hq, List.all_append, ha]; decide
  have hlen : q.length = N := by rw [hq, List.length_append, hpl, hN]; rfl
  have hpk := pkB_length q
  rw [hlen] at hpk
  have hN2 : N % 2 = 0 := by omega
  have hNn : N ≤ 1002 := by omega
  have hpos : 0 < N := by omega
  have HQ := hide hq
  have HN := hide hN
  clear hq hN
  have HAT := hide (fun k hk => all_at hall (k := k) hk)
  have HSN := hide (pkB_snoc q)
  have HCP := hide hcap
  have HL : Hid (∀ o, ((w.alloc o).alloc (.cells #[.int .i64 3] 2)).ownsRow w.heap.size 2 1 (.slice (some ⟨w.heap.size + 1, 0, none⟩) 1 1) 1 [.int .i64 3]) := fun o => by
    have := World.ownsRow_lit (size := 1) (e := 2) (base := w.heap.size) (w.alloc o) #[.int .i64 3] 1 (by simp) (by unfold maxLen; omega) rfl
    simpa using this
  clear h hall hcap ha
  go_enter Try.func46, Try.ntmps46
  go_wp2_with (at_builtin; refine wpList_append_irow _ rfl _ _ 25 rfl w.heap.size i0 Try.underlying25 hi hz0 hz1 hz2 _ 1 [3] rfl (by exact (unhide HL) _) a n cap p rfl (by first | exact (unhide HX).below (below_alloc w _) (Nat.le_refl _) | exact ((unhide HX).below (below_alloc w _) (Nat.le_refl _)).below (below_alloc _ _) (Nat.le_refl _)) (unhide HCP) (by omega) (by simp; try omega) ?_)
  intro a1 c1 w1 o1 g1
  have B1 : Below w.heap.size w w1 := by
    first
    | exact (below_alloc w _).grown g1 (by simp) (fun g e => by simp [Value.ownBlock] at e; omega)
    | exact ((below_alloc w _).alloc (by simp) _).grown g1 (by simp; omega) (fun g e => by simp [Value.ownBlock] at e; omega)
  clear g1
  have o1 : w1.ownsRow w.heap.size 2 1 (.slice a1 N c1) N (q.map (Value.int .i64)) := by rw [unhide HQ, unhide HN]; exact o1
  rw [← unhide HN]
  have R1 := IRow.own2 o1
  have s1 := B1.size
  have o2 : (w1.alloc (.cells #[] 5)).ownsRow w1.heap.size 5 1 (.slice (some ⟨w1.heap.size, 0, none⟩) 0 0) 0 (((pkB q).take 0).map (Value.int .u8)) := by
    have := World.ownsRow_lit (size := 1) (e := 5) (base := w1.heap.size) w1 #[] 0 (Nat.le_refl _) (by unfold maxLen; omega) rfl
    simpa using this
  have HO := hide o2
  have HR := hide R1
  have HB := hide B1
  clear o1 o2 R1 B1 HL HX
  obtain ⟨b1, f1, ea, hb1, hc1⟩ := (unhide HR).at hpos
  have HC1 := hide hc1
  subst ea
  clear hc1 HR
  go_wp2_with fail
  go_loopw [7, 8] (fun v i wr => ∃ (k t : Nat) (da : Option Addr) (dc : Nat), k ≤ N / 2 ∧ t = 2 * k ∧ i = .int .i64 t ∧ v = .slice da k dc ∧ wr.ownsRow w1.heap.size 5 1 (.slice da k dc) k (((pkB q).take k).map (Value.int .u8)) ∧ Below w1.heap.size w1 wr) (fun _ i _ => N - (intOf i).toNat)
  case atStart => exact ⟨0, 0, _, _, Nat.zero_le _, rfl, rfl, rfl, unhide HO, below_alloc _ _⟩
  case round =>
    obtain ⟨k, t, da, dc, hk, ht, rfl, rfl, hown, hbel⟩ := hrel
    clear HO
    by_cases hlt : t + 1 < N
    · have c0 : w1.cell? ⟨b1, f1 + t, none⟩ = some (.int .i64 (q.getD t 0)) := (unhide HC1) t (by omega)
      have c9 : w1.cell? ⟨b1, f1 + (t + 1), none⟩ = some (.int .i64 (q.getD (t + 1) 0)) := (unhide HC1) (t + 1) (by omega)
      have x0 := (unhide HAT) t (by omega)
      have x1 := (unhide HAT) (t + 1) (by omega)
      have HS := (unhide HSN) k (by omega)
      rw [← ht] at HS
      have HS := hide HS
      obtain ⟨s, hs⟩ : ∃ s, s = t + 1 := ⟨_, rfl⟩
      rw [← hs] at c9 x1 HS
      generalize q.getD t 0 = x at c0 x0 HS
      generalize q.getD s 0 = y at c9 x1 HS
      have d0 := (hbel.cell hb1).trans c0
      have d1 := (hbel.cell hb1).trans c9
      have hz := hbel.size
      have e1 : IntKind.i64.wrap (x * 16) = x * 16 := i64_up _ (by omega) (by omega)
      have e2 : IntKind.i64.wrap (x * 16 + y) = x * 16 + y := i64_up _ (by omega) (by omega)
      have e3 : IntKind.u8.wrap (x * 16 + y) = x * 16 + y := u8_up _ (by omega) (by omega)
      have i1 : (0 : Int) ≤ (t : Int) := by omega
      have i2 : (t : Int) < (N : Int) := by omega
      have i3 : (t : Int) + 1 = (s : Int) := by omega
      have i4 : (0 : Int) ≤ (s : Int) := by omega
      have i5 : (s : Int) < (N : Int) := by omega
      have i6 : IntKind.i64.wrap (s : Int) = (s : Int) := i64_up _ (by omega) (by omega)
      have hsn : s < N := by omega
      have HCW := hide (And.intro c0 c9)
      have HBE := hide hbel
      have HT := hide ht
      clear hbel c0 c9 ht hs hlt
      go_wp2_with fail
      go_region_held3 (fun w' => w'.cell? ⟨b1, f1 + t, none⟩ = some (.int .i64 x) ∧ w'.cell? ⟨b1, f1 + s, none⟩ = some (.int .i64 y)) (first | go_keep | assumption) ((refine step_append_lies _ (by rfl) (.tmp 30) (.tmp 43) 22 (by rfl) w1.heap.size 5 j0 (.int .u8 0) 1 1 Try.underlying22 hj hy0 hy1 hy2 rfl (by decide) _ _ _ (by rfl) (by first | exact hown.alloc _ | exact (hown.alloc _).drew) ⟨wr.heap.size, 0, none⟩ 1 1 [.int .u8 (x * 16 + y)] (by rfl) rfl (by exact new1b _ _ _) (by simp [Value.oneCell']) (by omega) (by unfold maxLen; omega) (by omega) (by simp; omega) _ rfl ?_; intro g cap2 w2 hown2 hgrow2 hat2 hlt2; have hb2 : Below w1.heap.size w1 w2 := (((unhide HBE).alloc (by omega) _).drew).grown hgrow2 (by simp; omega) (fun q e => (hown.lt q e).1); have hS2 := And.intro ((hb2.cell hb1).trans (unhide HCW).1) ((hb2.cell hb1).trans (unhide HCW).2)))
      have ho2 : w2.ownsRow w1.heap.size 5 1 (.slice (some ⟨g, 0, none⟩) (k + 1) cap2) (k + 1) (((pkB q).take (k + 1)).map (Value.int .u8)) := by
        rw [unhide HS, List.map_append, show 16 * x + y = x * 16 + y from by omega]
        exact hown2
      have HB2 := hide hb2
      have HO2 := hide ho2
      clear hb2 ho2 hown2 hgrow2 hown hS2
      go_wp2_with fail
      go_roundw
      case rel => exact ⟨k + 1, t + 2, some ⟨g, 0, none⟩, cap2, by have := unhide HT; omega, by have := unhide HT; omega, by go_num, rfl, unhide HO2, unhide HB2⟩
      case measure => simp [intOf]; omega
    · obtain rfl : t = N := by omega
      obtain rfl : k = t / 2 := by omega
      rw [List.take_of_length_le (by omega)] at hown
      have HBE := hide hbel
      have hno : ¬ ((t : Int) + 1 < (t : Int)) := by omega
      have hno2 : decide ((t : Int) + 1 < (t : Int)) = false := decide_eq_false hno
      clear hbel ht
      go_wp2_with fail
      go_ret
      exact ⟨_, _, rfl, ownsRow_base hown s1, (unhide HB).trans ((unhide HBE).mono s1)⟩

set_option maxHeartbeats 2000000 in
theorem l13Path_n0 (a : Option Addr) (n cap : Nat) (p : List Int) (w : World) (h : IRow w a n p) (hcap : a = none → cap = 0) (hn : n ≤ 1000) (ha : p.all isH = true) (hev : n % 2 = 0) (q : List Int) (hq : q = [0, 0] ++ p) (N : Nat) (hN : N = 2 + n) :
    Calls Try.prog 46 #[.slice a n cap, .bool false] w fun e w' => ∃ a' c', e = .returned (.slice a' (N / 2) c') ∧
      w'.ownsRow w.heap.size 5 1 (.slice a' (N / 2) c') (N / 2) ((pkB q).map (Value.int .u8)) ∧ Below w.heap.size w w' := by
  obtain ⟨i0, hi, hz0, hz1, hz2⟩ := info_parts info2
  obtain ⟨j0, hj, hy0, hy1, hy2⟩ := info_parts info5
  have hpl := h.1
  have hpar : (((n : Nat) : Int) % 2 == 1) = false := by rw [beq_eq_false_iff_ne]; omega
  have HX := hide h
  have hall : q.all isH = true := by rw [hq, List.all_append, ha]; decide
  have hlen : q.length = N := by rw [hq, List.length_append, hpl, hN]; rfl
  have hpk := pkB_length q
  rw [hlen] at hpk
  have hN2 : N % 2 = 0 := by omega
  have hNn : N ≤ 1002 := by omega
  have hpos : 0 < N := by omega
  have HQ := hide hq
  have HN := hide hN
  clear hq hN
  have HAT := hide (fun k hk => all_at hall (k := k) hk)
  have HSN := hide (pkB_snoc q)
  have HCP := hide hcap
  have HL := hide (World.ownsRow_lit (size := 1) (e := 2) (base := w.heap.size) w #[.int .i64 0, .int .i64 0] 2 (Nat.le_refl _) (by unfold maxLen; omega) rfl)
  clear h hall hcap ha
  go_enter Try.func46, Try.ntmps46
  go_wp2_with (at_builtin; refine wpList_append_irow _ rfl _ _ 25 rfl w.heap.size i0 Try.underlying25 hi hz0 hz1 hz2 _ 2 [0, 0] rfl (by exact unhide HL) a n cap p rfl (by first | exact (unhide HX).below (below_alloc w _) (Nat.le_refl _) | exact ((unhide HX).below (below_alloc w _) (Nat.le_refl _)).below (below_alloc _ _) (Nat.le_refl _)) (unhide HCP) (by omega) (by simp; try omega) ?_)
  intro a1 c1 w1 o1 g1
  have B1 : Below w.heap.size w w1 := by
    first
    | exact (below_alloc w _).grown g1 (by simp) (fun g e => by simp [Value.ownBlock] at e; omega)
    | exact ((below_alloc w _).alloc (by simp) _).grown g1 (by simp; omega) (fun g e => by simp [Value.ownBlock] at e; omega)
  clear g1
  have o1 : w1.ownsRow w.heap.size 2 1 (.slice a1 N c1) N (q.map (Value.int .i64)) := by rw [unhide HQ, unhide HN]; exact o1
  rw [← unhide HN]
  have R1 := IRow.own2 o1
  have s1 := B1.size
  have o2 : (w1.alloc (.cells #[] 5)).ownsRow w1.heap.size 5 1 (.slice (some ⟨w1.heap.size, 0, none⟩) 0 0) 0 (((pkB q).take 0).map (Value.int .u8)) := by
    have := World.ownsRow_lit (size := 1) (e := 5) (base := w1.heap.size) w1 #[] 0 (Nat.le_refl _) (by unfold maxLen; omega) rfl
    simpa using this
  have HO := hide o2
  have HR := hide R1
  have HB := hide B1
  clear o1 o2 R1 B1 HL HX
  obtain ⟨b1, f1, ea, hb1, hc1⟩ := (unhide HR).at hpos
  have HC1 := hide hc1
  subst ea
  clear hc1 HR
  go_wp2_with fail
  go_loopw [7, 8] (fun v i wr => ∃ (k t : Nat) (da : Option Addr) (dc : Nat), k ≤ N / 2 ∧ t = 2 * k ∧ i = .int .i64 t ∧ v = .slice da k dc ∧ wr.ownsRow w1.heap.size 5 1 (.slice da k dc) k (((pkB q).take k).map (Value.int .u8)) ∧ Below w1.heap.size w1 wr) (fun _ i _ => N - (intOf i).toNat)
  case atStart => exact ⟨0, 0, _, _, Nat.zero_le _, rfl, rfl, rfl, unhide HO, below_alloc _ _⟩
  case round =>
    obtain ⟨k, t, da, dc, hk, ht, rfl, rfl, hown, hbel⟩ := hrel
    clear HO
    by_cases hlt : t + 1 < N
    · have c0 : w1.cell? ⟨b1, f1 + t, none⟩ = some (.int .i64 (q.getD t 0)) := (unhide HC1) t (by omega)
      have c9 : w1.cell? ⟨b1, f1 + (t + 1), none⟩ = some (.int .i64 (q.getD (t + 1) 0)) := (unhide HC1) (t + 1) (by omega)
      have x0 := (unhide HAT) t (by omega)
      have x1 := (unhide HAT) (t + 1) (by omega)
      have HS := (unhide HSN) k (by omega)
      rw [← ht] at HS
      have HS := hide HS
      obtain ⟨s, hs⟩ : ∃ s, s = t + 1 := ⟨_, rfl⟩
      rw [← hs] at c9 x1 HS
      generalize q.getD t 0 = x at c0 x0 HS
      generalize q.getD s 0 = y at c9 x1 HS
      have d0 := (hbel.cell hb1).trans c0
      have d1 := (hbel.cell hb1).trans c9
      have hz := hbel.size
      have e1 : IntKind.i64.wrap (x * 16) = x * 16 := i64_up _ (by omega) (by omega)
      have e2 : IntKind.i64.wrap (x * 16 + y) = x * 16 + y := i64_up _ (by omega) (by omega)
      have e3 : IntKind.u8.wrap (x * 16 + y) = x * 16 + y := u8_up _ (by omega) (by omega)
      have i1 : (0 : Int) ≤ (t : Int) := by omega
      have i2 : (t : Int) < (N : Int) := by omega
      have i3 : (t : Int) + 1 = (s : Int) := by omega
      have i4 : (0 : Int) ≤ (s : Int) := by omega
      have i5 : (s : Int) < (N : Int) := by omega
      have i6 : IntKind.i64.wrap (s : Int) = (s : Int) := i64_up _ (by omega) (by omega)
      have hsn : s < N := by omega
      have HCW := hide (And.intro c0 c9)
      have HBE := hide hbel
      have HT := hide ht
      clear hbel c0 c9 ht hs hlt
      go_wp2_with fail
      go_region_held3 (fun w' => w'.cell? ⟨b1, f1 + t, none⟩ = some (.int .i64 x) ∧ w'.cell? ⟨b1, f1 + s, none⟩ = some (.int .i64 y)) (first | go_keep | assumption) ((refine step_append_lies _ (by rfl) (.tmp 30) (.tmp 43) 22 (by rfl) w1.heap.size 5 j0 (.int .u8 0) 1 1 Try.underlying22 hj hy0 hy1 hy2 rfl (by decide) _ _ _ (by rfl) (by first | exact hown.alloc _ | exact (hown.alloc _).drew) ⟨wr.heap.size, 0, none⟩ 1 1 [.int .u8 (x * 16 + y)] (by rfl) rfl (by exact new1b _ _ _) (by simp [Value.oneCell']) (by omega) (by unfold maxLen; omega) (by omega) (by simp; omega) _ rfl ?_; intro g cap2 w2 hown2 hgrow2 hat2 hlt2; have hb2 : Below w1.heap.size w1 w2 := (((unhide HBE).alloc (by omega) _).drew).grown hgrow2 (by simp; omega) (fun q e => (hown.lt q e).1); have hS2 := And.intro ((hb2.cell hb1).trans (unhide HCW).1) ((hb2.cell hb1).trans (unhide HCW).2)))
      have ho2 : w2.ownsRow w1.heap.size 5 1 (.slice (some ⟨g, 0, none⟩) (k + 1) cap2) (k + 1) (((pkB q).take (k + 1)).map (Value.int .u8)) := by
        rw [unhide HS, List.map_append, show 16 * x + y = x * 16 + y from by omega]
        exact hown2
      have HB2 := hide hb2
      have HO2 := hide ho2
      clear hb2 ho2 hown2 hgrow2 hown hS2
      go_wp2_with fail
      go_roundw
      case rel => exact ⟨k + 1, t + 2, some ⟨g, 0, none⟩, cap2, by have := unhide HT; omega, by have := unhide HT; omega, by go_num, rfl, unhide HO2, unhide HB2⟩
      case measure => simp [intOf]; omega
    · obtain rfl : t = N := by omega
      obtain rfl : k = t / 2 := by omega
      rw [List.take_of_length_le (by omega)] at hown
      have HBE := hide hbel
      have hno : ¬ ((t : Int) + 1 < (t : Int)) := by omega
      have hno2 : decide ((t : Int) + 1 < (t : Int)) = false := decide_eq_false hno
      clear hbel ht
      go_wp2_with fail
      go_ret
      exact ⟨_, _, rfl, ownsRow_base hown s1, (unhide HB).trans ((unhide HBE).mono s1)⟩

set_option maxHeartbeats 2000000 in
theorem l13Path_n1 (a : Option Addr) (n cap : Nat) (p : List Int) (w : World) (h : IRow w a n p) (hcap : a = none → cap = 0) (hn : n ≤ 1000) (ha : p.all isH = true) (hev : n % 2 = 1) (q : List Int) (hq : q = [1] ++ p) (N : Nat) (hN : N = 1 + n) :
    Calls Try.prog 46 #[.slice a n cap, .bool false] w fun e w' => ∃ a' c', e = .returned (.slice a' (N / 2) c') ∧
      w'.ownsRow w.heap.size 5 1 (.slice a' (N / 2) c') (N / 2) ((pkB q).map (Value.int .u8)) ∧ Below w.heap.size w w' := by
  obtain ⟨i0, hi, hz0, hz1, hz2⟩ := info_parts info2
  obtain ⟨j0, hj, hy0, hy1, hy2⟩ := info_parts info5
  have hpl := h.1
  have hpar : (((n : Nat) : Int) % 2 == 1) = true := by rw [beq_iff_eq]; omega
  have HX := hide h
  have hall : q.all isH = true := by rw [hq, List.all_append, ha]; decide
  have hlen : q.length = N := by rw [hq, List.length_append, hpl, hN]; rfl
  have hpk := pkB_length q
  rw [hlen] at hpk
  have hN2 : N % 2 = 0 := by omega
  have hNn : N ≤ 1002 := by omega
  have hpos : 0 < N := by omega
  have HQ := hide hq
  have HN := hide hN
  clear hq hN
  have HAT := hide (fun k hk => all_at hall (k := k) hk)
  have HSN := hide (pkB_snoc q)
  have HCP := hide hcap
  have HL : Hid (∀ o, ((w.alloc o).alloc (.cells #[.int .i64 1] 2)).ownsRow w.heap.size 2 1 (.slice (some ⟨w.heap.size + 1, 0, none⟩) 1 1) 1 [.int .i64 1]) := fun o => by
    have := World.ownsRow_lit (size := 1) (e := 2) (base := w.heap.size) (w.alloc o) #[.int .i64 1] 1 (by simp) (by unfold maxLen; omega) rfl
    simpa using this
  clear h hall hcap ha
  go_enter Try.func46, Try.ntmps46
  go_wp2_with (at_builtin; refine wpList_append_irow _ rfl _ _ 25 rfl w.heap.size i0 Try.underlying25 hi hz0 hz1 hz2 _ 1 [1] rfl (by exact (unhide HL) _) a n cap p rfl (by first | exact (unhide HX).below (below_alloc w _) (Nat.le_refl _) | exact ((unhide HX).below (below_alloc w _) (Nat.le_refl _)).below (below_alloc _ _) (Nat.le_refl _)) (unhide HCP) (by omega) (by simp; try omega) ?_)
  intro a1 c1 w1 o1 g1
  have B1 : Below w.heap.size w w1 := by
    first
    | exact (below_alloc w _).grown g1 (by simp) (fun g e => by simp [Value.ownBlock] at e; omega)
    | exact ((below_alloc w _).alloc (by simp) _).grown g1 (by simp; omega) (fun g e => by simp [Value.ownBlock] at e; omega)
  clear g1
  have o1 : w1.ownsRow w.heap.size 2 1 (.slice a1 N c1) N (q.map (Value.int .i64)) := by rw [unhide HQ, unhide HN]; exact o1
  rw [← unhide HN]
  have R1 := IRow.own2 o1
  have s1 := B1.size
  have o2 : (w1.alloc (.cells #[] 5)).ownsRow w1.heap.size 5 1 (.slice (some ⟨w1.heap.size, 0, none⟩) 0 0) 0 (((pkB q).take 0).map (Value.int .u8)) := by
    have := World.ownsRow_lit (size := 1) (e := 5) (base := w1.heap.size) w1 #[] 0 (Nat.le_refl _) (by unfold maxLen; omega) rfl
    simpa using this
  have HO := hide o2
  have HR := hide R1
  have HB := hide B1
  clear o1 o2 R1 B1 HL HX
  obtain ⟨b1, f1, ea, hb1, hc1⟩ := (unhide HR).at hpos
  have HC1 := hide hc1
  subst ea
  clear hc1 HR
  go_wp2_with fail
  go_loopw [7, 8] (fun v i wr => ∃ (k t : Nat) (da : Option Addr) (dc : Nat), k ≤ N / 2 ∧ t = 2 * k ∧ i = .int .i64 t ∧ v = .slice da k dc ∧ wr.ownsRow w1.heap.size 5 1 (.slice da k dc) k (((pkB q).take k).map (Value.int .u8)) ∧ Below w1.heap.size w1 wr) (fun _ i _ => N - (intOf i).toNat)
  case atStart => exact ⟨0, 0, _, _, Nat.zero_le _, rfl, rfl, rfl, unhide HO, below_alloc _ _⟩
  case round =>
    obtain ⟨k, t, da, dc, hk, ht, rfl, rfl, hown, hbel⟩ := hrel
    clear HO
    by_cases hlt : t + 1 < N
    · have c0 : w1.cell? ⟨b1, f1 + t, none⟩ = some (.int .i64 (q.getD t 0)) := (unhide HC1) t (by omega)
      have c9 : w1.cell? ⟨b1, f1 + (t + 1), none⟩ = some (.int .i64 (q.getD (t + 1) 0)) := (unhide HC1) (t + 1) (by omega)
      have x0 := (unhide HAT) t (by omega)
      have x1 := (unhide HAT) (t + 1) (by omega)
      have HS := (unhide HSN) k (by omega)
      rw [← ht] at HS
      have HS := hide HS
      obtain ⟨s, hs⟩ : ∃ s, s = t + 1 := ⟨_, rfl⟩
      rw [← hs] at c9 x1 HS
      generalize q.getD t 0 = x at c0 x0 HS
      generalize q.getD s 0 = y at c9 x1 HS
      have d0 := (hbel.cell hb1).trans c0
      have d1 := (hbel.cell hb1).trans c9
      have hz := hbel.size
      have e1 : IntKind.i64.wrap (x * 16) = x * 16 := i64_up _ (by omega) (by omega)
      have e2 : IntKind.i64.wrap (x * 16 + y) = x * 16 + y := i64_up _ (by omega) (by omega)
      have e3 : IntKind.u8.wrap (x * 16 + y) = x * 16 + y := u8_up _ (by omega) (by omega)
      have i1 : (0 : Int) ≤ (t : Int) := by omega
      have i2 : (t : Int) < (N : Int) := by omega
      have i3 : (t : Int) + 1 = (s : Int) := by omega
      have i4 : (0 : Int) ≤ (s : Int) := by omega
      have i5 : (s : Int) < (N : Int) := by omega
      have i6 : IntKind.i64.wrap (s : Int) = (s : Int) := i64_up _ (by omega) (by omega)
      have hsn : s < N := by omega
      have HCW := hide (And.intro c0 c9)
      have HBE := hide hbel
      have HT := hide ht
      clear hbel c0 c9 ht hs hlt
      go_wp2_with fail
      go_region_held3 (fun w' => w'.cell? ⟨b1, f1 + t, none⟩ = some (.int .i64 x) ∧ w'.cell? ⟨b1, f1 + s, none⟩ = some (.int .i64 y)) (first | go_keep | assumption) ((refine step_append_lies _ (by rfl) (.tmp 30) (.tmp 43) 22 (by rfl) w1.heap.size 5 j0 (.int .u8 0) 1 1 Try.underlying22 hj hy0 hy1 hy2 rfl (by decide) _ _ _ (by rfl) (by first | exact hown.alloc _ | exact (hown.alloc _).drew) ⟨wr.heap.size, 0, none⟩ 1 1 [.int .u8 (x * 16 + y)] (by rfl) rfl (by exact new1b _ _ _) (by simp [Value.oneCell']) (by omega) (by unfold maxLen; omega) (by omega) (by simp; omega) _ rfl ?_; intro g cap2 w2 hown2 hgrow2 hat2 hlt2; have hb2 : Below w1.heap.size w1 w2 := (((unhide HBE).alloc (by omega) _).drew).grown hgrow2 (by simp; omega) (fun q e => (hown.lt q e).1); have hS2 := And.intro ((hb2.cell hb1).trans (unhide HCW).1) ((hb2.cell hb1).trans (unhide HCW).2)))
      have ho2 : w2.ownsRow w1.heap.size 5 1 (.slice (some ⟨g, 0, none⟩) (k + 1) cap2) (k + 1) (((pkB q).take (k + 1)).map (Value.int .u8)) := by
        rw [unhide HS, List.map_append, show 16 * x + y = x * 16 + y from by omega]
        exact hown2
      have HB2 := hide hb2
      have HO2 := hide ho2
      clear hb2 ho2 hown2 hgrow2 hown hS2
      go_wp2_with fail
      go_roundw
      case rel => exact ⟨k + 1, t + 2, some ⟨g, 0, none⟩, cap2, by have := unhide HT; omega, by have := unhide HT; omega, by go_num, rfl, unhide HO2, unhide HB2⟩
      case measure => simp [intOf]; omega
    · obtain rfl : t = N := by omega
      obtain rfl : k = t / 2 := by omega
      rw [List.take_of_length_le (by omega)] at hown
      have HBE := hide hbel
      have hno : ¬ ((t : Int) + 1 < (t : Int)) := by omega
      have hno2 : decide ((t : Int) + 1 < (t : Int)) = false := decide_eq_false hno
      clear hbel ht
      go_wp2_with fail
      go_ret
      exact ⟨_, _, rfl, ownsRow_base hown s1, (unhide HB).trans ((unhide HBE).mono s1)⟩

theorem l13Path_any (a : Option Addr) (n cap : Nat) (p : List Int) (e : Bool) (w : World) (h : IRow w a n p) (hcap : a = none → cap = 0) (hn : n ≤ 1000) (ha : p.all isH = true) :
    Calls Try.prog 46 #[.slice a n cap, .bool e] w fun e' w' => ∃ a' c', e' = .returned (.slice a' (pkB (phd n e ++ p)).length c') ∧
      w'.ownsRow w.heap.size 5 1 (.slice a' (pkB (phd n e ++ p)).length c') (pkB (phd n e ++ p)).length ((pkB (phd n e ++ p)).map (Value.int .u8)) ∧ Below w.heap.size w w' := by
  have hl : (pkB (phd n e ++ p)).length = (2 - n % 2 + n) / 2 := by rw [pkB_length, List.length_append, phd_length, h.1]
  rw [hl]
  by_cases hev : n % 2 = 0
  · cases e
    · exact l13Path_n0 a n cap p w h hcap hn ha hev _ (by unfold phd; rw [if_pos hev]; rfl) _ (by omega)
    · exact l13Path_e0 a n cap p w h hcap hn ha hev _ (by unfold phd; rw [if_pos hev]; rfl) _ (by omega)
  · cases e
    · exact l13Path_n1 a n cap p w h hcap hn ha (by omega) _ (by unfold phd; rw [if_neg hev]; rfl) _ (by omega)
    · exact l13Path_e1 a n cap p w h hcap hn ha (by omega) _ (by unfold phd; rw [if_neg hev]; rfl) _ (by omega)

end Go.Proofs.Ytihdmdbekdadlaa

/- What is proved here: what the model's PackPath answers: the code and the bytes of a path, in new memory. -/
namespace Go.Proofs.Ytihdmdbekdadlaa
open Go.RowKit
set_option linter.unusedVariables false
set_option maxRecDepth 100000

theorem isH_dec (v : Int) : decide (0 ≤ v ∧ v ≤ 15) = isH v := rfl

theorem all_no {p : List Int} {k : Nat} (hk : k < p.length) (h : isH (p.getD k 0) = false) : p.all isH = false := by
  rw [getD_at _ _ hk] at h
  cases hh : p.all isH
  · rfl
  · have := List.all_eq_true.1 hh _ (List.getElem_mem hk)
    rw [h] at this
    exact this.symm

theorem all_take_succ {p : List Int} {k : Nat} (hk : k < p.length) (h0 : (p.take k).all isH = true) (h : isH (p.getD k 0) = true) : (p.take (k + 1)).all isH = true := by
  rw [getD_at _ _ hk] at h
  rw [List.take_succ_eq_append_getElem hk, List.all_append, h0]
  simp [h]

set_option maxHeartbeats 2000000 in
theorem specPack_any (a : Option Addr) (n cap : Nat) (p : List Int) (e : Bool) (w : World) (h : IRow w a n p) (hcap : a = none → cap = 0) (hn : n ≤ 1048576) :
    Calls Try.prog 14 #[.slice a n cap, .bool e] w fun e' w' => ∃ a' c', e' = .returned (.agg #[.int .i64 (ppCode p), .slice a' (ppB p e).length c']) ∧
      w'.ownsRow w.heap.size 5 1 (.slice a' (ppB p e).length c') (ppB p e).length ((ppB p e).map (Value.int .u8)) ∧ Below w.heap.size w w' := by
  have hpl := h.1
  by_cases hm : 20 < n
  · have e1 : ppCode p = 2 := if_pos (by omega)
    have e2 : ppB p e = [] := by unfold ppB; rw [e1]; rfl
    rw [e1, e2]
    clear h e1 e2 hcap
    go_enter Try.func14, Try.ntmps14
    go_wp2_with fail
    exact bodyPost_ret (v := .agg #[.int .i64 2, .slice none 0 0]) (by simp [results, Try.results14, go_sem]) rfl ⟨none, 0, rfl, World.ownsRow_nil _ _ _ _, (Below.refl _ _).alloc (Nat.le_refl _) _⟩
  · have HX := hide (fun o => h.below (below_alloc w o) (Nat.le_refl _))
    have HCP := hide hcap
    clear h hcap
    have HC0 : Hid (p.all isH = true → ppCode p = 0 ∧ ppB p e = pkB (phd n e ++ p)) := fun hh => by
      have q : ppCode p = 0 := by unfold ppCode; rw [if_neg (by omega), hh]; rfl
      exact ⟨q, by unfold ppB; rw [if_pos q, hpl]⟩
    have HC3 : Hid (p.all isH = false → ppCode p = 3 ∧ ppB p e = []) := fun hh => by
      have q : ppCode p = 3 := by unfold ppCode; rw [if_neg (by omega), hh]; rfl
      exact ⟨q, by unfold ppB; rw [q]; rfl⟩
    obtain ⟨cd, hcd⟩ : ∃ cd, cd = ppCode p := ⟨_, rfl⟩
    obtain ⟨bs, hbs⟩ : ∃ bs, bs = ppB p e := ⟨_, rfl⟩
    rw [← hcd] at HC0 HC3 ⊢
    rw [← hbs] at HC0 HC3 ⊢
    clear hcd hbs
    have hw : Hid (∀ o, (w.alloc o).heap.size = w.heap.size + 1) := fun o => by simp
    go_enter Try.func14, Try.ntmps14
    go_wp2_with fail
    go_loopw [5] (fun i wr => ∃ k : Nat, k ≤ n ∧ i = .int .i64 k ∧ (p.take k).all isH = true ∧ wr = w.alloc (.cells #[.int .i64 0, .slice none 0 0] 31)) (fun i _ => n - (intOf i).toNat)
    case atStart => exact ⟨0, Nat.zero_le _, rfl, rfl, rfl⟩
    case round =>
      obtain ⟨k, hk, rfl, hall, rfl⟩ := hrel
      by_cases hlt : k < n
      · obtain ⟨b, off, rfl, hb, hc⟩ := ((unhide HX) (.cells #[.int .i64 0, .slice none 0 0] 31)).at (by omega)
        have hck := hc k hlt
        have HN := hide (all_no (p := p) (k := k) (by omega))
        have HY := hide (all_take_succ (p := p) (k := k) (by omega) hall)
        generalize p.getD k 0 = x at hck HN HY
        have i1 : (0 : Int) ≤ (k : Int) := by omega
        have i2 : (k : Int) < (n : Int) := by omega
        clear hc hall
        go_wp2_with fail
        refine (in_any x 0 15 _).mono ?_
        rintro e1 w1 ⟨rfl, rfl⟩
        rw [isH_dec]
        cases hx : isH x
        · obtain ⟨rfl, rfl⟩ := (unhide HC3) ((unhide HN) hx)
          clear HC3 HC0 HN HY hck
          go_wp2_with fail
          exact bodyPost_ret (v := .agg #[.int .i64 3, .slice none 0 0]) (by simp [results, Try.results14, go_sem]) rfl ⟨none, 0, rfl, World.ownsRow_nil _ _ _ _, (Below.refl _ _).alloc (Nat.le_refl _) _⟩
        · have HT := hide ((unhide HY) hx)
          clear HN HY hck
          go_wp2_with fail
          go_roundw
          case rel => exact ⟨k + 1, by omega, by go_num, unhide HT, (by first | rfl | trivial)⟩
          case measure => simp [intOf]; omega
      · obtain rfl : k = n := by omega
        rw [List.take_of_length_le (by omega)] at hall
        obtain ⟨rfl, hbs⟩ := (unhide HC0) hall
        have HC := hide (l13Path_any a k cap p e _ ((unhide HX) (.cells #[.int .i64 0, .slice none 0 0] 31)) (unhide HCP) (by omega) hall)
        rw [← hbs] at HC
        clear hbs hall HC0 HC3
        go_wp2_with fail
        refine (unhide HC).mono ?_
        rintro e1 w2 ⟨a2, c2, rfl, hown, hbel⟩
        have hsz : (w.alloc (.cells #[.int .i64 0, .slice none 0 0] 31)).heap.size = w.heap.size + 1 := by simp
        rw [hsz] at hown hbel
        have q0 : w2.cell? ⟨w.heap.size, 0, none⟩ = some (.int .i64 0) := (hbel.cell (by simp)).trans (by simp)
        have q1 : w2.cell? ⟨w.heap.size, 1, none⟩ = some (.slice none 0 0) := (hbel.cell (by simp)).trans (by simp)
        have f0 : w2.frozen? ⟨w.heap.size, 0, none⟩ = false := (hbel.frozen (by simp)).trans (by simp)
        have f1 : w2.frozen? ⟨w.heap.size, 1, none⟩ = false := (hbel.frozen (by simp)).trans (by simp)
        have hb2 : Below w.heap.size w w2 := ((Below.refl _ _).alloc (Nat.le_refl _) _).trans (hbel.mono (by omega))
        have HB := hide hb2
        have HO := hide hown
        clear hb2 hown hbel hsz HC HX
        go_wp2_with fail
        refine bodyPost_ret (v := .agg #[.int .i64 0, .slice a2 bs.length c2]) (by simp [results, Try.results14, go_sem, q0, q1]) rfl ⟨_, c2, rfl, ?_, ?_⟩
        · exact ownsRow_base (ownsRow_setCell_below (ownsRow_setCell_below (unhide HO) (by simp) _) (by simp) _) (by omega)
        · exact ((unhide HB).setCell (by simp) _).setCell (by simp) _

end Go.Proofs.Ytihdmdbekdadlaa

/- What is proved here: what the program's PackPath answers: the code and the bytes of a path, in new memory. -/
namespace Go.Proofs.Ytihdmdbekdadlaa
open Go.RowKit
set_option linter.unusedVariables false
set_option maxRecDepth 100000

set_option maxHeartbeats 2000000 in
theorem implPack_any (a : Option Addr) (n cap : Nat) (p : List Int) (e : Bool) (w : World) (h : IRow w a n p) (hcap : a = none → cap = 0) (hn : n ≤ 1048576) :
    Calls Try.prog 11 #[.slice a n cap, .bool e] w fun e' w' => ∃ a' c', e' = .returned (.agg #[.int .i64 (ppCode p), .slice a' (ppB p e).length c']) ∧
      w'.ownsRow w.heap.size 5 1 (.slice a' (ppB p e).length c') (ppB p e).length ((ppB p e).map (Value.int .u8)) ∧ Below w.heap.size w w' := by
  have hpl := h.1
  by_cases hm : 20 < n
  · have e1 : ppCode p = 2 := if_pos (by omega)
    have e2 : ppB p e = [] := by unfold ppB; rw [e1]; rfl
    rw [e1, e2]
    clear h e1 e2 hcap
    go_enter Try.func11, Try.ntmps11
    go_wp2_with fail
    exact bodyPost_ret (v := .agg #[.int .i64 2, .slice none 0 0]) (by simp [results, Try.results11, go_sem]) rfl ⟨none, 0, rfl, World.ownsRow_nil _ _ _ _, (Below.refl _ _).alloc (Nat.le_refl _) _⟩
  · have HX := hide (fun o => h.below (below_alloc w o) (Nat.le_refl _))
    have HCP := hide hcap
    clear h hcap
    have HC0 : Hid (p.all isH = true → ppCode p = 0 ∧ ppB p e = pkB (phd n e ++ p)) := fun hh => by
      have q : ppCode p = 0 := by unfold ppCode; rw [if_neg (by omega), hh]; rfl
      exact ⟨q, by unfold ppB; rw [if_pos q, hpl]⟩
    have HC3 : Hid (p.all isH = false → ppCode p = 3 ∧ ppB p e = []) := fun hh => by
      have q : ppCode p = 3 := by unfold ppCode; rw [if_neg (by omega), hh]; rfl
      exact ⟨q, by unfold ppB; rw [q]; rfl⟩
    obtain ⟨cd, hcd⟩ : ∃ cd, cd = ppCode p := ⟨_, rfl⟩
    obtain ⟨bs, hbs⟩ : ∃ bs, bs = ppB p e := ⟨_, rfl⟩
    rw [← hcd] at HC0 HC3 ⊢
    rw [← hbs] at HC0 HC3 ⊢
    clear hcd hbs
    have hw : Hid (∀ o, (w.alloc o).heap.size = w.heap.size + 1) := fun o => by simp
    go_enter Try.func11, Try.ntmps11
    go_wp2_with fail
    go_loopw [14] (fun i wr => ∃ k : Nat, k ≤ n ∧ i = .int .i64 k ∧ (p.take k).all isH = true ∧ wr = w.alloc (.cells #[.int .i64 0, .slice none 0 0] 31)) (fun i _ => n - (intOf i).toNat)
    case atStart => exact ⟨0, Nat.zero_le _, rfl, rfl, rfl⟩
    case round =>
      obtain ⟨k, hk, rfl, hall, rfl⟩ := hrel
      by_cases hlt : k < n
      · obtain ⟨b, off, rfl, hb, hc⟩ := ((unhide HX) (.cells #[.int .i64 0, .slice none 0 0] 31)).at (by omega)
        have hck := hc k hlt
        have HN := hide (all_no (p := p) (k := k) (by omega))
        have HY := hide (all_take_succ (p := p) (k := k) (by omega) hall)
        generalize p.getD k 0 = x at hck HN HY
        have i1 : (0 : Int) ≤ (k : Int) := by omega
        have i2 : (k : Int) < (n : Int) := by omega
        clear hc hall
        go_wp2_with fail
        refine (isHalf_any x _).mono ?_
        rintro e1 w1 ⟨rfl, rfl⟩
        cases hx : isH x
        · obtain ⟨rfl, rfl⟩ := (unhide HC3) ((unhide HN) hx)
          clear HC3 HC0 HN HY hck
          go_wp2_with fail
          exact bodyPost_ret (v := .agg #[.int .i64 3, .slice none 0 0]) (by simp [results, Try.results11, go_sem]) rfl ⟨none, 0, rfl, World.ownsRow_nil _ _ _ _, (Below.refl _ _).alloc (Nat.le_refl _) _⟩
        · have HT := hide ((unhide HY) hx)
          clear HN HY hck
          go_wp2_with fail
          go_roundw
          case rel => exact ⟨k + 1, by omega, by go_num, unhide HT, (by first | rfl | trivial)⟩
          case measure => simp [intOf]; omega
      · obtain rfl : k = n := by omega
        rw [List.take_of_length_le (by omega)] at hall
        obtain ⟨rfl, hbs⟩ := (unhide HC0) hall
        clear HC0 HC3
        have HBS := hide hbs
        have HAL := hide hall
        clear hbs hall
        have hsz : (w.alloc (.cells #[.int .i64 0, .slice none 0 0] 31)).heap.size = w.heap.size + 1 := by simp
        have X0 := (unhide HX) (.cells #[.int .i64 0, .slice none 0 0] 31)
        have B0 := below_alloc w (.cells #[.int .i64 0, .slice none 0 0] 31)
        have q0 : (w.alloc (.cells #[.int .i64 0, .slice none 0 0] 31)).heap[w.heap.size]? = some (.cells #[.int .i64 0, .slice none 0 0] 31 (0, 0)) := by
          show (w.heap.push _)[w.heap.size]? = _
          simp
        go_wp2_with fail
        generalize w.alloc (.cells #[.int .i64 0, .slice none 0 0] 31) = w0 at X0 B0 q0 hsz ⊢
        refine (pathHead_any k e w0 (by omega)).mono ?_
        rintro e1 w1 ⟨c1, rfl, o1, b1⟩
        have hph := phd_length k e
        have R1 := IRow.own o1
        have X1 := X0.below b1 (Nat.le_refl _)
        have hcc := hide (fun (t : TypeId) => concatI_any w1.heap.size 2 (some ⟨w0.heap.size, 0, none⟩) a (phd k e).length c1 k cap (phd k e) p (w1.alloc (.cells #[.slice (some ⟨w0.heap.size, 0, none⟩) (phd k e).length c1, .slice a k cap] t)) (by simp) (by simp) (R1.below (below_alloc w1 _) (Nat.le_refl _)) (X1.below (below_alloc w1 _) (Nat.le_refl _)) (fun e => by cases e) (unhide HCP) (by omega) (by omega))
        have HAQ : Hid ((phd k e ++ p).all isH = true) := by show _ = _; rw [List.all_append, phd_all, unhide HAL]; rfl
        have hql : (phd k e ++ p).length = (phd k e).length + k := by rw [List.length_append, hpl]
        have hpk := pkB_length (phd k e ++ p)
        rw [hql, ← unhide HBS] at hpk
        have HPK := hide hpk
        have HQL := hide hql
        generalize (phd k e ++ p) = q at hcc HAQ HBS HQL
        generalize (phd k e).length = m at hcc hph HPK HQL ⊢
        have B1 := B0.trans (b1.mono (by omega))
        have q1 := (b1.block w.heap.size (by omega)).trans q0
        have HB1 := hide B1
        have s1 := b1.size
        have hm2 : m ≤ 2 := by omega
        have s01 : w.heap.size + 1 ≤ w0.heap.size := by omega
        clear o1 R1 X1 hql hpk b1 B1 B0 X0 q0 hph hsz
        go_wp2_with fail
        refine ((unhide hcc) _).mono ?_
        rintro e2 w2 ⟨a2, c2, rfl, o2, b2⟩
        have B2 : Below w.heap.size w w2 := ((unhide HB1).alloc (unhide HB1).size _).trans (b2.mono (by simp; omega))
        have q2 := (b2.block w.heap.size (by simp; omega)).trans ((Below.heap_alloc w1 _ _ (by omega)).trans q1)
        have hs2 : w.heap.size + 1 ≤ w2.heap.size := by have := b2.size; simp at this; omega
        have R2 := IRow.own2 o2
        have HBH := hide (bytesOfHalves_any a2 (m + k) c2 q w2 R2 (by omega) (unhide HAQ))
        rw [← unhide HBS] at HBH
        have HB2 := hide B2
        clear b2 o2 R2 B2 HB1 q1 hcc
        go_wp2_with fail
        refine (unhide HBH).mono ?_
        rintro e3 w3 ⟨a3, c3, rfl, o3, b3⟩
        have B3 : Below w.heap.size w w3 := (unhide HB2).trans (b3.mono (by omega))
        have q3 := (b3.block w.heap.size (by omega)).trans q2
        obtain ⟨z0, z1, f0, f1⟩ := res_facts q3
        have e5 : (m + k) / 2 = bs.length := (unhide HPK).symm
        rw [e5] at o3 ⊢
        have HO := hide (ownsRow_base o3 hs2)
        have HB := hide B3
        clear b3 o3 B3 q3 q2 e5 HBH
        go_wp2_with fail
        refine bodyPost_ret (v := .agg #[.int .i64 0, .slice a3 bs.length c3]) (by simp [results, Try.results11, go_sem, z0, z1]) rfl ⟨_, c3, rfl, ?_, ?_⟩
        · exact ownsRow_base (ownsRow_setCell_below (ownsRow_setCell_below (unhide HO) (by simp) _) (by simp) _) (by omega)
        · exact ((unhide HB).setCell (by simp) _).setCell (by simp) _

end Go.Proofs.Ytihdmdbekdadlaa

/- What is proved here: plain facts on slices of items in a world, and how an argument that is such a slice reads; they hold for every program. -/
namespace Go.Proofs.Ytihdmdbekdadlaa
open Go.RowKit
set_option linter.unusedVariables false
set_option maxRecDepth 100000

/-- An item: whether it is a list, its parent, its bytes. -/
structure It where
  l : Bool
  p : Int
  z : List Int

/-- The item 'it' lies at three cells. -/
def ItAt (w : World) (b o : Nat) (it : It) : Prop :=
  ∃ sa sl sc, w.cell? ⟨b, o, none⟩ = some (.bool it.l) ∧ w.cell? ⟨b, o + 1, none⟩ = some (.int .i64 it.p) ∧ w.cell? ⟨b, o + 2, none⟩ = some (.slice sa sl sc) ∧ BRow w sa sl it.z

/-- What the numbers of an item keep to. -/
def ItOk (it : It) : Prop := -9223372036854775808 ≤ it.p ∧ it.p ≤ 9223372036854775807 ∧ it.z.length ≤ maxLen

/-- The slice 'a', of 'len' items, reads as 'its'. -/
def ItRow (w : World) (a : Option Addr) (len : Nat) (its : List It) : Prop :=
  its.length = len ∧ (∀ it ∈ its, ItOk it) ∧ (0 < len → ∃ b off, a = some ⟨b, off, none⟩ ∧ ∀ i it, its[i]? = some it → ItAt w b (off + i * 3) it)

theorem ItAt.lt {w : World} {b o : Nat} {it : It} (h : ItAt w b o it) : b < w.heap.size := by
  obtain ⟨_, _, _, h, _⟩ := h
  exact lt_of_cell h

theorem ItAt.below {w w' : World} {b o : Nat} {it : It} (h : ItAt w b o it) {B : Nat} (hb : Below B w w') (hB : w.heap.size ≤ B) : ItAt w' b o it := by
  have hl := Nat.lt_of_lt_of_le h.lt hB
  obtain ⟨sa, sl, sc, h1, h2, h3, h4⟩ := h
  exact ⟨sa, sl, sc, (hb.cell hl).trans h1, (hb.cell hl).trans h2, (hb.cell hl).trans h3, h4.below hb hB⟩

theorem ItRow.below {w w' : World} {a : Option Addr} {len : Nat} {its : List It} (h : ItRow w a len its) {B : Nat} (hb : Below B w w') (hB : w.heap.size ≤ B) : ItRow w' a len its := by
  refine ⟨h.1, h.2.1, fun hp => ?_⟩
  obtain ⟨b, off, e, k⟩ := h.2.2 hp
  exact ⟨b, off, e, fun i it hi => (k i it hi).below hb hB⟩

theorem ItRow.at {w : World} {a : Option Addr} {len : Nat} {its : List It} (h : ItRow w a len its) (hp : 0 < len) :
    ∃ b off, a = some ⟨b, off, none⟩ ∧ b < w.heap.size ∧ ∀ i it, its[i]? = some it → ItAt w b (off + i * 3) it := by
  obtain ⟨b, off, e, k⟩ := h.2.2 hp
  refine ⟨b, off, e, ?_, k⟩
  have hl : 0 < its.length := by rw [h.1]; exact hp
  exact (k 0 its[0] (List.getElem?_eq_getElem hl)).lt

theorem ItRow.bytes {w : World} {a : Option Addr} {len : Nat} {its : List It} (h : ItRow w a len its) : ∀ it ∈ its, ∀ x ∈ it.z, 0 ≤ x ∧ x ≤ 255 := by
  intro it hit
  obtain ⟨i, hi⟩ := List.getElem?_of_mem hit
  have hl := (List.getElem?_eq_some_iff.1 hi).1
  obtain ⟨b, off, _, k⟩ := h.2.2 (by rw [← h.1]; omega)
  obtain ⟨_, _, _, _, _, _, hb⟩ := k i it hi
  exact hb.2.1

theorem add_add (x : Addr) (hx : x.spot = none) (i j : Nat) : (x.add i).add j = ⟨x.block, x.off + i + j, none⟩ := by
  obtain ⟨b, o, s⟩ := x
  simp only at hx
  subst hx
  rw [add_none, add_none]

/-- How an argument that is a slice of items reads. -/
theorem open_items {H : Type} {enc : TypeId × Value → H} {P : Program} {w : World} {sp : Nat → Bool} {held : Bool} {t e tb ti ts tu : TypeId} {fs : Array Field} {f0 f1 f2 : Field} {v : Value} {d : DataW H} {ps : List MemPlace}
    (ht : P.underlying t = some (.slice e)) (he : P.underlying e = some (.struct fs)) (hc : P.cellsOf e = 3)
    (h0 : fs[0]? = some f0) (h1 : fs[1]? = some f1) (h2 : fs[2]? = some f2)
    (o0 : f0.offset = 0) (o1 : f1.offset = 1) (o2 : f2.offset = 2) (t0 : f0.type = tb) (t1 : f1.type = ti) (t2 : f2.type = ts)
    (c0 : P.cellsOf tb = 1) (c1 : P.cellsOf ti = 1) (c2 : P.cellsOf ts = 1) (cu : P.cellsOf tu = 1)
    (ub : P.underlying tb = some .bool) (ui : P.underlying ti = some (.int .i64)) (us : P.underlying ts = some (.slice tu)) (uu : P.underlying tu = some (.int .u8))
    (hv : ∃ a len cap, v = .slice a len cap) (h : DataW.Trod enc P w 0 sp held t v d ps) : ∃ a len cap its, v = .slice a len cap ∧ len ≤ maxLen ∧ ItRow w a len its := by
  obtain ⟨a, len, cap, rfl⟩ := hv
  obtain ⟨fuel, h⟩ := h
  rcases DataW.trod_slice ht h with ⟨hn, _⟩ | ⟨x, len', cap', elems, rest, n, _, hcs, _, _, hl, hm, hlen, hel, _⟩
  · have hn' : [Value.slice a len cap] = [Value.slice none 0 0] := hn
    simp only [List.cons.injEq, Value.slice.injEq, and_true] at hn'
    obtain ⟨rfl, rfl, rfl⟩ := hn'
    exact ⟨none, 0, 0, [], rfl, Nat.zero_le _, rfl, fun it hi => by simp at hi, fun hp => absurd hp (Nat.lt_irrefl _)⟩
  · have hcs' : [Value.slice a len cap] = [Value.slice (some x) len' cap'] := hcs
    simp only [List.cons.injEq, Value.slice.injEq, and_true] at hcs'
    obtain ⟨rfl, rfl, rfl⟩ := hcs'
    have each : ∀ i, i < len → ∃ it : It, ItOk it ∧ x.spot = none ∧ ItAt w x.block (x.off + i * 3) it := by
      intro i hi
      have hE := hel i hi
      have hi' : i < elems.length := by omega
      rw [List.getElem?_eq_getElem hi', Option.bind_eq_some_iff, hc] at hE
      obtain ⟨cs, hcells, htr⟩ := hE
      obtain ⟨_, hcl, hcell⟩ := World.cells?_some hcells
      obtain ⟨xs, m, _, _, _, hxl, hf⟩ := DataW.trod_struct he htr
      have hs3 : 3 ≤ xs.length := by
        rw [hxl]
        have := (Array.getElem?_eq_some_iff.1 h2).1
        omega
      have g0 := hf 0 f0 h0
      have g1 := hf 1 f1 h1
      have g2 := hf 2 f2 h2
      rw [List.getElem?_eq_getElem (by omega)] at g0 g1 g2
      rw [t0, o0, c0] at g0
      rw [t1, o1, c1] at g1
      rw [t2, o2, c2] at g2
      obtain ⟨bl, e0, _⟩ := DataW.trod_bool ub g0
      obtain ⟨pn, e1, _, hwf⟩ := DataW.trod_int ui g1
      match cs, hcl with
      | [x0, x1, x2], _ =>
        simp only [List.drop_zero, List.drop_succ_cons, List.take_succ_cons, List.take_zero, List.cons.injEq, and_true] at e0 e1 g2
        subst e0 e1
        have k0 : w.cell? ((x.add (i * 3)).add 0) = some (.bool bl) := hcell 0 (by omega)
        have k1 : w.cell? ((x.add (i * 3)).add 1) = some (.int .i64 pn) := hcell 1 (by omega)
        have k2 : w.cell? ((x.add (i * 3)).add 2) = some x2 := hcell 2 (by omega)
        have hsp : x.spot = none := by
          have hk := World.cell?_spot k0
          by_cases hi0 : i * 3 = 0
          · simpa [Addr.add, hi0] using hk
          · cases i with
            | zero => simp at hi0
            | succ j =>
              have hE0 := hel 0 (by omega)
              rw [List.getElem?_eq_getElem (by omega), Option.bind_eq_some_iff, hc] at hE0
              obtain ⟨cs0, hcells0, _⟩ := hE0
              obtain ⟨_, hcl0, hcell0⟩ := World.cells?_some hcells0
              have q := hcell0 0 (by omega)
              rw [List.getElem?_eq_getElem (by omega)] at q
              simpa [Addr.add] using World.cell?_spot q
        rw [add_add x hsp] at k0 k1 k2
        have hb := bounds_i64 hwf
        rcases ChangeShapes.open_ints us uu cu g2 with ⟨e2, _⟩ | ⟨sa, sl, sc, zs, e2, _, hsl, hsm, hzl, _, hzc, hzw⟩
        · simp only [List.cons.injEq, and_true] at e2
          subst e2
          exact ⟨⟨bl, pn, []⟩, ⟨hb.1, hb.2, Nat.zero_le _⟩, hsp, none, 0, 0, k0, k1, k2, rfl, fun n hn => by simp at hn, fun _ => rfl, fun y hy => by cases hy⟩
        · simp only [List.cons.injEq, and_true] at e2
          subst e2
          have hzl' : sl ≤ zs.length := by rw [hzl]; split <;> omega
          refine ⟨⟨bl, pn, zs.take sl⟩, ⟨hb.1, hb.2, by simp; omega⟩, hsp, some sa, sl, sc, k0, k1, k2, by simp; omega, fun n hn => ?_, (fun e => (by cases e)), fun y hy j hj => ?_⟩
          · exact bounds_u8 (hzw n (List.mem_of_mem_take hn))
          · cases hy
            rw [hzc j (by omega), getD_at _ j (by omega), getD_at _ j (by simp; omega), List.getElem_take]
    have build : ∀ m, m ≤ len → ∃ its : List It, its.length = m ∧ (∀ it ∈ its, ItOk it) ∧ ∀ i it, its[i]? = some it → ItAt w x.block (x.off + i * 3) it := by
      intro m
      induction m with
      | zero => intro _; exact ⟨[], rfl, fun it hi => by simp at hi, fun i it hi => by simp at hi⟩
      | succ m ih =>
        intro hm'
        obtain ⟨its, q1, q2, q3⟩ := ih (by omega)
        obtain ⟨it, r1, _, r2⟩ := each m (by omega)
        refine ⟨its ++ [it], by simp [q1], fun y hy => ?_, fun i y hy => ?_⟩
        · rcases List.mem_append.1 hy with h' | h'
          · exact q2 y h'
          · simp at h'; subst h'; exact r1
        · rcases Nat.lt_or_ge i m with h' | h'
          · rw [List.getElem?_append_left (by omega)] at hy
            exact q3 i y hy
          · have hi : i < (its ++ [it]).length := (List.getElem?_eq_some_iff.1 hy).1
            simp at hi
            obtain rfl : i = m := by omega
            rw [List.getElem?_append_right (by omega), q1, Nat.sub_self] at hy
            simp at hy
            subst hy
            exact r2
    obtain ⟨its, q1, q2, q3⟩ := build len (Nat.le_refl _)
    refine ⟨some x, len, cap, its, rfl, Nat.le_trans hl hm, q1, q2, fun hp => ⟨x.block, x.off, ?_, q3⟩⟩
    obtain ⟨_, _, hsp, _⟩ := each 0 hp
    obtain ⟨b, o, s⟩ := x
    simp only at hsp
    subst hsp
    rfl

end Go.Proofs.Ytihdmdbekdadlaa
