/- What is proved here: what the program's UnpackPath answers: the code, the path and whether it is an end, in new memory. -/
import Derived.Test.YtihdmdbekdadlaaJ3
import Derived.Test.YtihdmdbekdadlaaJ6
import Derived.Test.YtihdmdbekdadlaaJ1
namespace Go.Proofs.Ytihdmdbekdadlaa
open Go.RowKit
set_option linter.unusedVariables false
set_option maxRecDepth 100000

/-- What is left of a row that is owned, behind its first ones. -/
theorem OwnS.tailS {w : World} {B : Nat} {T : TypeId} {g off n c : Nat} {vs : List Value} (h : OwnS w B T 1 ⟨some ⟨g, off, none⟩, n, c⟩ vs) (k : Nat) (hk : k ≤ n) : OwnS w B T 1 ⟨some ⟨g, off + k, none⟩, n - k, c - k⟩ (vs.drop k) := by
  obtain ⟨g', off', cur, e, hb, hg, hl, ht⟩ := h.at' _ rfl
  have hlen := h.len
  have hmax := h.max
  have hroom := h.room
  simp only [Addr.mk.injEq, and_true] at e
  obtain ⟨rfl, rfl⟩ := e
  simp only [Nat.mul_one] at hl ht hlen hroom hmax
  refine ⟨by simp only [List.length_drop]; omega, by simp only; omega, by simp only; omega, (fun e => by cases e), fun x hx => ?_⟩
  cases hx
  refine ⟨g, off + k, cur, rfl, hb, hg, by simp only; omega, ?_⟩
  simp only [Nat.mul_one]
  rw [← ht, List.drop_take, List.drop_drop]

theorem OwnS.setB {w : World} {B : Nat} {T : TypeId} {m : Nat} {s : Sl} {vs : List Value} (h : OwnS w B T m s vs) (p : Addr) (hp : p.block < B) (u : Value) : OwnS (w.setCell p u) B T m s vs :=
  h.keep (fun x hx => heap_setCell_other w p x.block u (by have := (h.blk hx).1; omega))

theorem OwnS.tail0 {w : World} {B : Nat} {T : TypeId} {g off n c : Nat} {vs : List Value} (h : OwnS w B T 1 ⟨some ⟨g, off, none⟩, n, c⟩ vs) : OwnS w B T 1 ⟨some ⟨g, off, none⟩, 0, 0⟩ [] := by
  obtain ⟨g', off', cur, e, hb, hg, hl, ht⟩ := h.at' _ rfl
  simp only [Addr.mk.injEq, and_true] at e
  obtain ⟨rfl, rfl⟩ := e
  refine ⟨rfl, Nat.zero_le _, Nat.le_refl _, (fun e => by cases e), fun x hx => ?_⟩
  cases hx
  exact ⟨g, off, cur, rfl, hb, hg, by simp only; omega, by simp⟩

set_option maxHeartbeats 2000000 in
theorem implUnpack_any (a : Option Addr) (n cap : Nat) (d : List Int) (w : World) (h : BRow w a n d) (hl : n ≤ 1048576) :
    Calls Try.prog 9 #[.slice a n cap] w fun e w' => ∃ a' c', e = .returned (.agg #[.int .i64 (upCode d), .slice a' (upPath d).length c', .bool (upEnd d)]) ∧
      OwnS w' w.heap.size 2 1 ⟨a', (upPath d).length, c'⟩ ((upPath d).map (Value.int .i64)) ∧ Below w.heap.size w w' := by
  have hdl := h.1
  by_cases hb : n < 1 ∨ 11 < n
  · have hf : upOk1 d = false := by
      unfold upOk1
      rw [hdl]
      rcases hb with q | q
      · rw [decide_eq_true (by omega : n = 0)]; rfl
      · rw [decide_eq_true q]; simp
    have e1 : upCode d = 5 := by unfold upCode; rw [hf]; rfl
    have e2 : upPath d = [] := by unfold upPath; rw [hf]; rfl
    have e3 : upEnd d = false := by unfold upEnd; rw [hf]; rfl
    rw [e1, e2, e3]
    have o5 : ∀ (W : World), OwnS W w.heap.size 2 1 ⟨none, 0, 0⟩ (([] : List Int).map (Value.int .i64)) := fun W => OwnS.of (World.ownsRow_nil _ _ _ _)
    have HO5 := hide o5
    clear h e1 e2 e3 hf o5
    by_cases h1 : n < 1
    · obtain rfl : n = 0 := by omega
      go_enter Try.func9, Try.ntmps9
      go_wp2_with fail
      exact bodyPost_ret (v := .agg #[.int .i64 5, .slice none 0 0, .bool false]) (by simp [results, Try.results9, go_sem]) rfl ⟨none, 0, rfl, (unhide HO5) _, (Below.refl _ _).alloc (Nat.le_refl _) _⟩
    · have k1 : decide ((n : Int) < 1) = false := decide_eq_false (by omega)
      have k3 : ¬ (n : Int) < 1 := by omega
      have k2 : decide ((11 : Int) < (n : Int)) = true := decide_eq_true (by omega)
      go_enter Try.func9, Try.ntmps9
      go_wp2_with fail
      exact bodyPost_ret (v := .agg #[.int .i64 5, .slice none 0 0, .bool false]) (by simp [results, Try.results9, go_sem]) rfl ⟨none, 0, rfl, (unhide HO5) _, (Below.refl _ _).alloc (Nat.le_refl _) _⟩
  · have hn1 : 1 ≤ n := by omega
    have hn2 : n ≤ 11 := by omega
    have hrg := h.2.1
    have hag := up_again d hrg (by omega) (by omega)
    have hPr := upP_all d hrg
    have hh := hbs_length d
    have hBr := ppB_range (upP d) (upE d)
    have HH := hide (fun o => halfBytes_any a n cap d (w.alloc o) (h.below (below_alloc w o) (Nat.le_refl _)) hl)
    have hP : upP d = if (hbs d).getD 0 0 % 2 = 0 then (hbs d).drop 2 else (hbs d).drop 1 := rfl
    have hE : upE d = decide (2 ≤ (hbs d).getD 0 0) := rfl
    have hf0 : 0 ≤ (hbs d).getD 0 0 := by
      have := all_at (hbs_all d hrg) (k := 0) (by omega)
      exact this.1
    have HC0 : Hid (upOk1 d = true → upCode d = 0 ∧ upPath d = upP d ∧ upEnd d = upE d) := fun hh => ⟨by unfold upCode; rw [hh]; rfl, by unfold upPath; rw [hh]; rfl, by unfold upEnd; rw [hh]; rfl⟩
    have HC3 : Hid (upOk1 d = false → upCode d = 5 ∧ upPath d = [] ∧ upEnd d = false) := fun hh => ⟨by unfold upCode; rw [hh]; rfl, by unfold upPath; rw [hh]; rfl, by unfold upEnd; rw [hh]; rfl⟩
    generalize upCode d = C at HC0 HC3 ⊢
    generalize upPath d = R at HC0 HC3 ⊢
    generalize upEnd d = E at HC0 HC3 ⊢
    rw [← hag] at HC0 HC3
    clear hag
    generalize upP d = P at HC0 HC3 hPr hBr hP
    generalize upE d = E0 at HC0 HC3 hBr hE
    generalize hbs d = q at HH hh hP hE hf0
    obtain ⟨f, hf⟩ : ∃ f, f = q.getD 0 0 := ⟨_, rfl⟩
    rw [← hf] at hP hE hf0
    subst hE
    have HP := hide hP
    have HF := hide hf
    have HPK : Hid (∀ (W : World) (s : Option Addr) (m c : Nat), IRow W s m P ∧ s ≠ none ∧ m ≤ 22 → Calls Try.prog 11 #[.slice s m c, .bool (decide (2 ≤ f))] W fun e' w' => ∃ a' c', e' = .returned (.agg #[.int .i64 (ppCode P), .slice a' (ppB P (decide (2 ≤ f))).length c']) ∧
      w'.ownsRow W.heap.size 5 1 (.slice a' (ppB P (decide (2 ≤ f))).length c') (ppB P (decide (2 ≤ f))).length ((ppB P (decide (2 ≤ f))).map (Value.int .u8)) ∧ Below W.heap.size W w') := fun W s m c hr => implPack_any s m c P _ W hr.1 (fun e => absurd e hr.2.1) (by omega)
    have HBL := hide (ppB_length P (decide (2 ≤ f)))
    have HBR := hide hBr
    have HDR := hide h
    generalize ppCode P = pc at HC0 HC3 HPK
    generalize ppB P (decide (2 ≤ f)) = pb at HC0 HC3 HPK HBL HBR
    have HRG := hide hrg
    clear hP hf h hrg hBr hPr
    have e0 : decide ((n : Int) < 1) = false := decide_eq_false (by omega)
    have e1 : decide (11 < (n : Int)) = false := decide_eq_false (by omega)
    have e9 : ¬ (n : Int) < 1 := by omega
    have e8 : ¬ 11 < (n : Int) := by omega
    obtain ⟨N, hN⟩ : ∃ N, N = 2 * n := ⟨_, rfl⟩
    rw [← hN] at HH
    have hqN : q.length = N := by omega
    have hN2 : 2 ≤ N := by omega
    have hN22 : N ≤ 22 := by omega
    have em : f.tmod 2 = f % 2 := Int.tmod_eq_emod_of_nonneg hf0
    have HQ := hide hqN
    clear hN hh hqN
    go_enter Try.func9, Try.ntmps9
    go_wp2_with fail
    refine ((unhide HH) _).mono ?_
    rintro e w1 ⟨g, c1, rfl, o1, b1⟩
    have hsz : (w.alloc (.cells #[.int .i64 0, .slice none 0 0, .bool false] 27)).heap.size = w.heap.size + 1 := by simp
    have q0 : (w.alloc (.cells #[.int .i64 0, .slice none 0 0, .bool false] 27)).heap[w.heap.size]? = some (.cells #[.int .i64 0, .slice none 0 0, .bool false] 27 (0, 0)) := by
      show (w.heap.push _)[w.heap.size]? = _
      simp
    have B0 := below_alloc w (.cells #[.int .i64 0, .slice none 0 0, .bool false] 27)
    generalize w.alloc (.cells #[.int .i64 0, .slice none 0 0, .bool false] 27) = w0 at *
    have q1 := (b1.block w.heap.size (by omega)).trans q0
    have B1 := B0.trans (b1.mono (by omega))
    have hs1 := b1.size
    have hs2 : w.heap.size + 1 ≤ w1.heap.size := by omega
    have R1 := IRow.own2 o1
    have S1 := (OwnS.of o1).base (B' := w.heap.size + 1) (by omega)
    have hNc : N ≤ c1 := S1.room
    have y0 := R1.2.2.2 _ rfl 0 (by omega)
    rw [add_none, ← unhide HF] at y0
    simp only [Nat.zero_add] at y0
    have HR1 := hide R1
    have HB1 := hide B1
    have HS1 := hide S1
    have HQ1 := hide q1
    have k1 : ¬ c1 = 1 := by omega
    have k2 : (1 : Int) ≤ (N : Int) := by omega
    have k3 : (2 : Int) ≤ (N : Int) := by omega
    have k4 : (0 : Int) < (N : Int) := by omega
    have hg1 : g < w1.heap.size := lt_of_cell y0
    clear o1 b1 R1 S1 q1 q0 B0 B1 HH HF hsz
    by_cases hev : f % 2 = 0
    · have hb2 : (f % 2 == 0) = true := by simp [hev]
      by_cases hc2 : c1 = 2
      · subst hc2
        obtain rfl : N = 2 := by omega
        have HP2 : P = [] := by rw [unhide HP, if_pos hev]; exact List.drop_eq_nil_of_le (by rw [unhide HQ]; omega)
        have B1c : IRow w1 (some ⟨g, 0, none⟩) 0 P ∧ (some ⟨g, 0, none⟩ : Option Addr) ≠ none ∧ 0 ≤ 22 := ⟨by rw [HP2]; exact IRow.none' _ _, by simp, by omega⟩
        have O1c : OwnS w1 (w.heap.size + 1) 2 1 ⟨some ⟨g, 0, none⟩, 0, 0⟩ (P.map (Value.int .i64)) := by rw [HP2]; exact (unhide HS1).tail0
        subst HP2
        go_wp2_with fail
        refine ((unhide HPK) _ _ _ _ B1c).mono ?_
        rintro e2 w2 ⟨a2, c2, rfl, o2, b2⟩
        have B1L := B1c.1.1
        have q2 := (b2.block w.heap.size (by omega)).trans (unhide HQ1)
        have B2 := (unhide HB1).trans (b2.mono (by omega))
        have O2 := O1c.keep (w' := w2) (fun x hx => b2.block _ (by cases hx; exact hg1))
        have R2 := BRow.own2 o2 (unhide HBR)
        have D2 := (unhide HDR).below B2 (Nat.le_refl _)
        obtain ⟨z0, z1, z2, f0, f1, f2⟩ := res3_facts q2
        have hw2 := b2.size
        have hs3 : w.heap.size < w2.heap.size := by omega
        have HB2 := hide B2
        have HO2 := hide O2
        have HR2 := hide R2
        have HD2 := hide D2
        have HQ2 := hide q2
        clear o2 b2 B2 O2 R2 D2 q2 O1c B1c HPK HDR HB1 HQ1 HS1 HR1
        by_cases hpc : pc = 0
        · have hpb : (pc != 0) = false := by simp [hpc]
          have q3 := (Below.heap_alloc w2 (.cells #[.int .i64 0, .slice a2 pb.length c2] 31) _ hs3).trans (unhide HQ2)
          obtain ⟨x0, x1, x2, g0, g1, g2⟩ := res3_facts q3
          have B3 := (unhide HB2).alloc (unhide HB2).size (.cells #[.int .i64 0, .slice a2 pb.length c2] 31)
          have R3 := (unhide HR2).below (below_alloc w2 (.cells #[.int .i64 0, .slice a2 pb.length c2] 31)) (Nat.le_refl _)
          have D3 := (unhide HD2).below (below_alloc w2 (.cells #[.int .i64 0, .slice a2 pb.length c2] 31)) (Nat.le_refl _)
          have O3 := (unhide HO2).keep (w' := w2.alloc (.cells #[.int .i64 0, .slice a2 pb.length c2] 31)) (fun x hx => Below.heap_alloc w2 _ _ ((unhide HO2).blk hx).2)
          have HSM := hide (implSame_any a2 a pb.length c2 n cap pb d _ R3 D3)
          rw [strEq_dec (unhide HBR) (unhide HRG)] at HSM
          have HB3 := hide B3
          have HO3 := hide O3
          clear B3 R3 D3 O3 q3 HQ2 HO2 HR2 HD2 z0 z1 z2 f0 f1 f2
          go_wp2_with fail
          generalize w2.alloc (.cells #[.int .i64 0, .slice a2 pb.length c2] 31) = w3 at *
          refine (unhide HSM).mono ?_
          rintro e3 w4 ⟨rfl, rfl⟩
          by_cases hsm : pb = d
          · rw [decide_eq_true hsm]
            obtain ⟨rfl, rfl, rfl⟩ := (unhide HC0) (by rw [decide_eq_true hpc, hsm]; simp)
            have HRL := hide B1L
            clear HC3 HC0 HSM B1L
            go_wp2_with fail
            refine bodyPost_ret (v := .agg #[.int .i64 0, .slice (some ⟨g, 0, none⟩) 0 0, .bool (decide (2 ≤ f))]) (by simp [results, Try.results9, go_sem, x0, x1, x2]) rfl ⟨_, _, by rw [unhide HRL], ?_, ?_⟩
            · rw [unhide HRL]
              exact ((((unhide HO3).setB _ (by simp) _).setB _ (by simp) _).setB _ (by simp) _).base (by omega)
            · exact (((unhide HB3).setCell (by simp) _).setCell (by simp) _).setCell (by simp) _
          · rw [decide_eq_false hsm]
            obtain ⟨rfl, rfl, rfl⟩ := (unhide HC3) (by rw [beq_eq_false_iff_ne.2 hsm]; simp)
            clear HC3 HC0 HSM
            go_wp2_with fail
            refine bodyPost_ret (v := .agg #[.int .i64 5, .slice none 0 0, .bool false]) (by simp [results, Try.results9, go_sem, x0, x1, x2]) rfl ⟨none, 0, rfl, OwnS.of (World.ownsRow_nil _ _ _ _), ?_⟩
            exact (((unhide HB3).setCell (by simp) _).setCell (by simp) _).setCell (by simp) _
        · have hpb : (pc != 0) = true := by simp [hpc]
          obtain ⟨rfl, rfl, rfl⟩ := (unhide HC3) (by rw [decide_eq_false hpc]; rfl)
          have B3 := (((unhide HB2).setCell (by simp) (p := ⟨w.heap.size, 0, none⟩) (.int .i64 5)).setCell (by simp) (p := ⟨w.heap.size, 1, none⟩) (.slice none 0 0)).setCell (by simp) (p := ⟨w.heap.size, 2, none⟩) (.bool false)
          have x0 : (((w2.setCell ⟨w.heap.size, 0, none⟩ (.int .i64 5)).setCell ⟨w.heap.size, 1, none⟩ (.slice none 0 0)).setCell ⟨w.heap.size, 2, none⟩ (.bool false)).cell? ⟨w.heap.size, 0, none⟩ = some (.int .i64 5) := by simp [go_sem, z0]
          have x1 : (((w2.setCell ⟨w.heap.size, 0, none⟩ (.int .i64 5)).setCell ⟨w.heap.size, 1, none⟩ (.slice none 0 0)).setCell ⟨w.heap.size, 2, none⟩ (.bool false)).cell? ⟨w.heap.size, 1, none⟩ = some (.slice none 0 0) := by simp [go_sem, z1]
          have x2 : (((w2.setCell ⟨w.heap.size, 0, none⟩ (.int .i64 5)).setCell ⟨w.heap.size, 1, none⟩ (.slice none 0 0)).setCell ⟨w.heap.size, 2, none⟩ (.bool false)).cell? ⟨w.heap.size, 2, none⟩ = some (.bool false) := by simp [go_sem, z2]
          have hz3 : (((w2.setCell ⟨w.heap.size, 0, none⟩ (.int .i64 5)).setCell ⟨w.heap.size, 1, none⟩ (.slice none 0 0)).setCell ⟨w.heap.size, 2, none⟩ (.bool false)).heap.size = w2.heap.size := by simp
          clear HQ2 HO2 HR2 HD2 HC0 HC3
          go_wp2_with fail
          generalize ((w2.setCell ⟨w.heap.size, 0, none⟩ (.int .i64 5)).setCell ⟨w.heap.size, 1, none⟩ (.slice none 0 0)).setCell ⟨w.heap.size, 2, none⟩ (.bool false) = w3 at *
          have y0' := ((below_alloc w3 (.cells #[.int .i64 pc, .slice a2 pb.length c2] 31)).cell (by rw [hz3]; exact hs3)).trans x0
          have y1' := ((below_alloc w3 (.cells #[.int .i64 pc, .slice a2 pb.length c2] 31)).cell (by rw [hz3]; exact hs3)).trans x1
          have y2' := ((below_alloc w3 (.cells #[.int .i64 pc, .slice a2 pb.length c2] 31)).cell (by rw [hz3]; exact hs3)).trans x2
          exact bodyPost_ret (v := .agg #[.int .i64 5, .slice none 0 0, .bool false]) (by simp [results, Try.results9, go_sem, y0', y1', y2']) rfl ⟨none, 0, rfl, OwnS.of (World.ownsRow_nil _ _ _ _), B3.alloc B3.size _⟩
      · have m1 : N - 2 ≤ 22 := by omega
        have B1c : IRow w1 (some ⟨g, 2, none⟩) (N - 2) P ∧ (some ⟨g, 2, none⟩ : Option Addr) ≠ none ∧ N - 2 ≤ 22 := ⟨by
          have := (unhide HR1).drop 2 (by omega)
          rw [unhide HP, if_pos hev]
          simpa using this, by simp, by omega⟩
        have O1c : OwnS w1 (w.heap.size + 1) 2 1 ⟨some ⟨g, 2, none⟩, N - 2, c1 - 2⟩ (P.map (Value.int .i64)) := by rw [unhide HP, if_pos hev, List.map_drop]; exact (unhide HS1).tailS 2 (by omega)
        go_wp2_with fail
        refine ((unhide HPK) _ _ _ _ B1c).mono ?_
        rintro e2 w2 ⟨a2, c2, rfl, o2, b2⟩
        have B1L := B1c.1.1
        have q2 := (b2.block w.heap.size (by omega)).trans (unhide HQ1)
        have B2 := (unhide HB1).trans (b2.mono (by omega))
        have O2 := O1c.keep (w' := w2) (fun x hx => b2.block _ (by cases hx; exact hg1))
        have R2 := BRow.own2 o2 (unhide HBR)
        have D2 := (unhide HDR).below B2 (Nat.le_refl _)
        obtain ⟨z0, z1, z2, f0, f1, f2⟩ := res3_facts q2
        have hw2 := b2.size
        have hs3 : w.heap.size < w2.heap.size := by omega
        have HB2 := hide B2
        have HO2 := hide O2
        have HR2 := hide R2
        have HD2 := hide D2
        have HQ2 := hide q2
        clear o2 b2 B2 O2 R2 D2 q2 O1c B1c HPK HDR HB1 HQ1 HS1 HR1
        by_cases hpc : pc = 0
        · have hpb : (pc != 0) = false := by simp [hpc]
          have q3 := (Below.heap_alloc w2 (.cells #[.int .i64 0, .slice a2 pb.length c2] 31) _ hs3).trans (unhide HQ2)
          obtain ⟨x0, x1, x2, g0, g1, g2⟩ := res3_facts q3
          have B3 := (unhide HB2).alloc (unhide HB2).size (.cells #[.int .i64 0, .slice a2 pb.length c2] 31)
          have R3 := (unhide HR2).below (below_alloc w2 (.cells #[.int .i64 0, .slice a2 pb.length c2] 31)) (Nat.le_refl _)
          have D3 := (unhide HD2).below (below_alloc w2 (.cells #[.int .i64 0, .slice a2 pb.length c2] 31)) (Nat.le_refl _)
          have O3 := (unhide HO2).keep (w' := w2.alloc (.cells #[.int .i64 0, .slice a2 pb.length c2] 31)) (fun x hx => Below.heap_alloc w2 _ _ ((unhide HO2).blk hx).2)
          have HSM := hide (implSame_any a2 a pb.length c2 n cap pb d _ R3 D3)
          rw [strEq_dec (unhide HBR) (unhide HRG)] at HSM
          have HB3 := hide B3
          have HO3 := hide O3
          clear B3 R3 D3 O3 q3 HQ2 HO2 HR2 HD2 z0 z1 z2 f0 f1 f2
          go_wp2_with fail
          generalize w2.alloc (.cells #[.int .i64 0, .slice a2 pb.length c2] 31) = w3 at *
          refine (unhide HSM).mono ?_
          rintro e3 w4 ⟨rfl, rfl⟩
          by_cases hsm : pb = d
          · rw [decide_eq_true hsm]
            obtain ⟨rfl, rfl, rfl⟩ := (unhide HC0) (by rw [decide_eq_true hpc, hsm]; simp)
            have HRL := hide B1L
            clear HC3 HC0 HSM B1L
            go_wp2_with fail
            refine bodyPost_ret (v := .agg #[.int .i64 0, .slice (some ⟨g, 2, none⟩) (N - 2) (c1 - 2), .bool (decide (2 ≤ f))]) (by simp [results, Try.results9, go_sem, x0, x1, x2]) rfl ⟨_, _, by rw [unhide HRL], ?_, ?_⟩
            · rw [unhide HRL]
              exact ((((unhide HO3).setB _ (by simp) _).setB _ (by simp) _).setB _ (by simp) _).base (by omega)
            · exact (((unhide HB3).setCell (by simp) _).setCell (by simp) _).setCell (by simp) _
          · rw [decide_eq_false hsm]
            obtain ⟨rfl, rfl, rfl⟩ := (unhide HC3) (by rw [beq_eq_false_iff_ne.2 hsm]; simp)
            clear HC3 HC0 HSM
            go_wp2_with fail
            refine bodyPost_ret (v := .agg #[.int .i64 5, .slice none 0 0, .bool false]) (by simp [results, Try.results9, go_sem, x0, x1, x2]) rfl ⟨none, 0, rfl, OwnS.of (World.ownsRow_nil _ _ _ _), ?_⟩
            exact (((unhide HB3).setCell (by simp) _).setCell (by simp) _).setCell (by simp) _
        · have hpb : (pc != 0) = true := by simp [hpc]
          obtain ⟨rfl, rfl, rfl⟩ := (unhide HC3) (by rw [decide_eq_false hpc]; rfl)
          have B3 := (((unhide HB2).setCell (by simp) (p := ⟨w.heap.size, 0, none⟩) (.int .i64 5)).setCell (by simp) (p := ⟨w.heap.size, 1, none⟩) (.slice none 0 0)).setCell (by simp) (p := ⟨w.heap.size, 2, none⟩) (.bool false)
          have x0 : (((w2.setCell ⟨w.heap.size, 0, none⟩ (.int .i64 5)).setCell ⟨w.heap.size, 1, none⟩ (.slice none 0 0)).setCell ⟨w.heap.size, 2, none⟩ (.bool false)).cell? ⟨w.heap.size, 0, none⟩ = some (.int .i64 5) := by simp [go_sem, z0]
          have x1 : (((w2.setCell ⟨w.heap.size, 0, none⟩ (.int .i64 5)).setCell ⟨w.heap.size, 1, none⟩ (.slice none 0 0)).setCell ⟨w.heap.size, 2, none⟩ (.bool false)).cell? ⟨w.heap.size, 1, none⟩ = some (.slice none 0 0) := by simp [go_sem, z1]
          have x2 : (((w2.setCell ⟨w.heap.size, 0, none⟩ (.int .i64 5)).setCell ⟨w.heap.size, 1, none⟩ (.slice none 0 0)).setCell ⟨w.heap.size, 2, none⟩ (.bool false)).cell? ⟨w.heap.size, 2, none⟩ = some (.bool false) := by simp [go_sem, z2]
          have hz3 : (((w2.setCell ⟨w.heap.size, 0, none⟩ (.int .i64 5)).setCell ⟨w.heap.size, 1, none⟩ (.slice none 0 0)).setCell ⟨w.heap.size, 2, none⟩ (.bool false)).heap.size = w2.heap.size := by simp
          clear HQ2 HO2 HR2 HD2 HC0 HC3
          go_wp2_with fail
          generalize ((w2.setCell ⟨w.heap.size, 0, none⟩ (.int .i64 5)).setCell ⟨w.heap.size, 1, none⟩ (.slice none 0 0)).setCell ⟨w.heap.size, 2, none⟩ (.bool false) = w3 at *
          have y0' := ((below_alloc w3 (.cells #[.int .i64 pc, .slice a2 pb.length c2] 31)).cell (by rw [hz3]; exact hs3)).trans x0
          have y1' := ((below_alloc w3 (.cells #[.int .i64 pc, .slice a2 pb.length c2] 31)).cell (by rw [hz3]; exact hs3)).trans x1
          have y2' := ((below_alloc w3 (.cells #[.int .i64 pc, .slice a2 pb.length c2] 31)).cell (by rw [hz3]; exact hs3)).trans x2
          exact bodyPost_ret (v := .agg #[.int .i64 5, .slice none 0 0, .bool false]) (by simp [results, Try.results9, go_sem, y0', y1', y2']) rfl ⟨none, 0, rfl, OwnS.of (World.ownsRow_nil _ _ _ _), B3.alloc B3.size _⟩
    · have hb2 : (f % 2 == 0) = false := by simp [hev]
      have B1c : IRow w1 (some ⟨g, 1, none⟩) (N - 1) P ∧ (some ⟨g, 1, none⟩ : Option Addr) ≠ none ∧ N - 1 ≤ 22 := ⟨by
        have := (unhide HR1).drop 1 (by omega)
        rw [unhide HP, if_neg hev]
        simpa using this, by simp, by omega⟩
      have O1c : OwnS w1 (w.heap.size + 1) 2 1 ⟨some ⟨g, 1, none⟩, N - 1, c1 - 1⟩ (P.map (Value.int .i64)) := by rw [unhide HP, if_neg hev, List.map_drop]; exact (unhide HS1).tailS 1 (by omega)
      go_wp2_with fail
      refine ((unhide HPK) _ _ _ _ B1c).mono ?_
      rintro e2 w2 ⟨a2, c2, rfl, o2, b2⟩
      have B1L := B1c.1.1
      have q2 := (b2.block w.heap.size (by omega)).trans (unhide HQ1)
      have B2 := (unhide HB1).trans (b2.mono (by omega))
      have O2 := O1c.keep (w' := w2) (fun x hx => b2.block _ (by cases hx; exact hg1))
      have R2 := BRow.own2 o2 (unhide HBR)
      have D2 := (unhide HDR).below B2 (Nat.le_refl _)
      obtain ⟨z0, z1, z2, f0, f1, f2⟩ := res3_facts q2
      have hw2 := b2.size
      have hs3 : w.heap.size < w2.heap.size := by omega
      have HB2 := hide B2
      have HO2 := hide O2
      have HR2 := hide R2
      have HD2 := hide D2
      have HQ2 := hide q2
      clear o2 b2 B2 O2 R2 D2 q2 O1c B1c HPK HDR HB1 HQ1 HS1 HR1
      by_cases hpc : pc = 0
      · have hpb : (pc != 0) = false := by simp [hpc]
        have q3 := (Below.heap_alloc w2 (.cells #[.int .i64 0, .slice a2 pb.length c2] 31) _ hs3).trans (unhide HQ2)
        obtain ⟨x0, x1, x2, g0, g1, g2⟩ := res3_facts q3
        have B3 := (unhide HB2).alloc (unhide HB2).size (.cells #[.int .i64 0, .slice a2 pb.length c2] 31)
        have R3 := (unhide HR2).below (below_alloc w2 (.cells #[.int .i64 0, .slice a2 pb.length c2] 31)) (Nat.le_refl _)
        have D3 := (unhide HD2).below (below_alloc w2 (.cells #[.int .i64 0, .slice a2 pb.length c2] 31)) (Nat.le_refl _)
        have O3 := (unhide HO2).keep (w' := w2.alloc (.cells #[.int .i64 0, .slice a2 pb.length c2] 31)) (fun x hx => Below.heap_alloc w2 _ _ ((unhide HO2).blk hx).2)
        have HSM := hide (implSame_any a2 a pb.length c2 n cap pb d _ R3 D3)
        rw [strEq_dec (unhide HBR) (unhide HRG)] at HSM
        have HB3 := hide B3
        have HO3 := hide O3
        clear B3 R3 D3 O3 q3 HQ2 HO2 HR2 HD2 z0 z1 z2 f0 f1 f2
        go_wp2_with fail
        generalize w2.alloc (.cells #[.int .i64 0, .slice a2 pb.length c2] 31) = w3 at *
        refine (unhide HSM).mono ?_
        rintro e3 w4 ⟨rfl, rfl⟩
        by_cases hsm : pb = d
        · rw [decide_eq_true hsm]
          obtain ⟨rfl, rfl, rfl⟩ := (unhide HC0) (by rw [decide_eq_true hpc, hsm]; simp)
          have HRL := hide B1L
          clear HC3 HC0 HSM B1L
          go_wp2_with fail
          refine bodyPost_ret (v := .agg #[.int .i64 0, .slice (some ⟨g, 1, none⟩) (N - 1) (c1 - 1), .bool (decide (2 ≤ f))]) (by simp [results, Try.results9, go_sem, x0, x1, x2]) rfl ⟨_, _, by rw [unhide HRL], ?_, ?_⟩
          · rw [unhide HRL]
            exact ((((unhide HO3).setB _ (by simp) _).setB _ (by simp) _).setB _ (by simp) _).base (by omega)
          · exact (((unhide HB3).setCell (by simp) _).setCell (by simp) _).setCell (by simp) _
        · rw [decide_eq_false hsm]
          obtain ⟨rfl, rfl, rfl⟩ := (unhide HC3) (by rw [beq_eq_false_iff_ne.2 hsm]; simp)
          clear HC3 HC0 HSM
          go_wp2_with fail
          refine bodyPost_ret (v := .agg #[.int .i64 5, .slice none 0 0, .bool false]) (by simp [results, Try.results9, go_sem, x0, x1, x2]) rfl ⟨none, 0, rfl, OwnS.of (World.ownsRow_nil _ _ _ _), ?_⟩
          exact (((unhide HB3).setCell (by simp) _).setCell (by simp) _).setCell (by simp) _
      · have hpb : (pc != 0) = true := by simp [hpc]
        obtain ⟨rfl, rfl, rfl⟩ := (unhide HC3) (by rw [decide_eq_false hpc]; rfl)
        have B3 := (((unhide HB2).setCell (by simp) (p := ⟨w.heap.size, 0, none⟩) (.int .i64 5)).setCell (by simp) (p := ⟨w.heap.size, 1, none⟩) (.slice none 0 0)).setCell (by simp) (p := ⟨w.heap.size, 2, none⟩) (.bool false)
        have x0 : (((w2.setCell ⟨w.heap.size, 0, none⟩ (.int .i64 5)).setCell ⟨w.heap.size, 1, none⟩ (.slice none 0 0)).setCell ⟨w.heap.size, 2, none⟩ (.bool false)).cell? ⟨w.heap.size, 0, none⟩ = some (.int .i64 5) := by simp [go_sem, z0]
        have x1 : (((w2.setCell ⟨w.heap.size, 0, none⟩ (.int .i64 5)).setCell ⟨w.heap.size, 1, none⟩ (.slice none 0 0)).setCell ⟨w.heap.size, 2, none⟩ (.bool false)).cell? ⟨w.heap.size, 1, none⟩ = some (.slice none 0 0) := by simp [go_sem, z1]
        have x2 : (((w2.setCell ⟨w.heap.size, 0, none⟩ (.int .i64 5)).setCell ⟨w.heap.size, 1, none⟩ (.slice none 0 0)).setCell ⟨w.heap.size, 2, none⟩ (.bool false)).cell? ⟨w.heap.size, 2, none⟩ = some (.bool false) := by simp [go_sem, z2]
        have hz3 : (((w2.setCell ⟨w.heap.size, 0, none⟩ (.int .i64 5)).setCell ⟨w.heap.size, 1, none⟩ (.slice none 0 0)).setCell ⟨w.heap.size, 2, none⟩ (.bool false)).heap.size = w2.heap.size := by simp
        clear HQ2 HO2 HR2 HD2 HC0 HC3
        go_wp2_with fail
        generalize ((w2.setCell ⟨w.heap.size, 0, none⟩ (.int .i64 5)).setCell ⟨w.heap.size, 1, none⟩ (.slice none 0 0)).setCell ⟨w.heap.size, 2, none⟩ (.bool false) = w3 at *
        have y0' := ((below_alloc w3 (.cells #[.int .i64 pc, .slice a2 pb.length c2] 31)).cell (by rw [hz3]; exact hs3)).trans x0
        have y1' := ((below_alloc w3 (.cells #[.int .i64 pc, .slice a2 pb.length c2] 31)).cell (by rw [hz3]; exact hs3)).trans x1
        have y2' := ((below_alloc w3 (.cells #[.int .i64 pc, .slice a2 pb.length c2] 31)).cell (by rw [hz3]; exact hs3)).trans x2
        exact bodyPost_ret (v := .agg #[.int .i64 5, .slice none 0 0, .bool false]) (by simp [results, Try.results9, go_sem, y0', y1', y2']) rfl ⟨none, 0, rfl, OwnS.of (World.ownsRow_nil _ _ _ _), B3.alloc B3.size _⟩

end Go.Proofs.Ytihdmdbekdadlaa

/- What is proved here: the contracts of the laws' helper functions over a PathResult (eq, mark, held), whose path may begin within a block. -/
namespace Go.Proofs.Ytihdmdbekdadlaa
open Go.RowKit
set_option linter.unusedVariables false
set_option maxRecDepth 100000

theorem OwnS.irow {w : World} {B : Nat} {s : Sl} {zs : List Int} (h : OwnS w B 2 1 s (zs.map (Value.int .i64))) : IRow w s.a s.n zs := by
  have hl : zs.length = s.n := by have := h.len; simpa using this
  refine ⟨hl, trivial, fun e => by have := h.nil e; have := h.room; omega, fun x hx i hi => ?_⟩
  obtain ⟨g, off, cur, rfl, _⟩ := h.at' x hx
  rw [add_none, h.cell hx (by omega), List.getElem?_map, List.getElem?_eq_getElem (by omega), getD_at _ _ (by omega)]
  rfl

theorem new3 (w : World) (x y z : Value) (t : TypeId) : Below w.heap.size w (w.alloc (Obj.cells #[x, y, z] t)) ∧ w.heap.size < (w.alloc (Obj.cells #[x, y, z] t)).heap.size ∧
    (w.alloc (Obj.cells #[x, y, z] t)).cell? ⟨w.heap.size, 0, none⟩ = some x ∧ (w.alloc (Obj.cells #[x, y, z] t)).cell? ⟨w.heap.size, 1, none⟩ = some y ∧ (w.alloc (Obj.cells #[x, y, z] t)).cell? ⟨w.heap.size, 2, none⟩ = some z :=
  ⟨below_alloc w _, by simp, by simp, by simp, by simp⟩

theorem grownBy_set (w : World) (g off : Nat) (u : Value) : w.grownBy (w.setCell ⟨g, off, none⟩ u) (some g) :=
  ⟨rfl, rfl, rfl, by simp [World.setCell], fun i _ hne => heap_setCell_other w ⟨g, off, none⟩ i u (fun e => hne (by rw [e]))⟩

set_option maxHeartbeats 1000000 in
theorem markIS_any (B : Nat) (a : Option Addr) (n cap : Nat) (zs : List Int) (k0 : Int) (w : World) (h : OwnS w B 2 1 ⟨a, n, cap⟩ (zs.map (Value.int .i64))) (hn : n ≤ 2097152) (hk0 : 0 ≤ k0) (hk1 : k0 ≤ 1099511627776) :
    Calls Try.prog 24 #[.slice a n cap, .int .i64 k0] w fun e w' => e = .returned (.int .i64 (k0 + n)) ∧
      OwnS w' B 2 1 ⟨a, n, cap⟩ ((imarks k0 n).map (Value.int .i64)) ∧ w.grownBy w' (a.map (·.block)) := by
  have hzl : zs.length = n := by simpa using h.len
  rcases Nat.eq_zero_or_pos n with h0 | hp
  · subst h0
    obtain rfl : zs = [] := List.length_eq_zero_iff.1 hzl
    have HO := hide h
    clear h
    go_enter Try.func24, Try.ntmps24
    go_wp2
    refine wp_loop_rounds 1 ?_
    rw [rounds_succ]
    go_wp2
    go_ret
    exact ⟨ret_int (by simp), unhide HO, grownBy_refl _ _⟩
  · obtain ⟨g, off, ha, _, _⟩ := h.pos hp
    simp only at ha
    subst ha
    go_enter Try.func24, Try.ntmps24
    go_wp2
    go_loopw [1, 5] (fun q i wr => ∃ k : Nat, k ≤ n ∧ i = .int .i64 k ∧ q = .int .i64 (k0 + k) ∧ OwnS wr B 2 1 ⟨some ⟨g, off, none⟩, n, cap⟩ ((imarks k0 k ++ zs.drop k).map (Value.int .i64)) ∧ w.grownBy wr (some g))
      (fun _ i _ => n - (intOf i).toNat)
    case atStart => exact ⟨0, Nat.zero_le _, rfl, by simp, by simpa [imarks] using h, grownBy_refl w _⟩
    case round =>
      obtain ⟨k, hk, rfl, rfl, hown, hgr⟩ := hrel
      by_cases hlt : k < n
      · have hfz := hown.free rfl (off + k)
        obtain ⟨u, hu⟩ : ∃ u, wr.cell? ⟨g, off + k, none⟩ = some u := by
          rw [hown.cell rfl (by simp only; omega)]
          exact ⟨_, List.getElem?_eq_getElem (by rw [hown.len]; simp only; omega)⟩
        have R := hown.set rfl k (.int .i64 (k0 + k))
        rw [imark_step k0 zs n k hzl hlt] at R
        have HR := hide R
        have HG := hide (grownBy_trans hgr (grownBy_set wr g (off + k) (.int .i64 (k0 + k))))
        clear R hown
        go_wp2
        go_roundw
        case rel => exact ⟨k + 1, by omega, by go_num, by go_num, unhide HR, unhide HG⟩
        case measure => simp [intOf]; omega
      · obtain rfl : k = n := by omega
        rw [List.drop_eq_nil_of_le (by omega), List.append_nil] at hown
        have HO := hide hown
        clear hown
        go_wp2
        go_ret
        exact ⟨rfl, unhide HO, hgr⟩

set_option maxHeartbeats 1000000 in
theorem markPath_own (B n cap : Nat) (c : Int) (E : Bool) (a : Option Addr) (zs : List Int) (k0 : Int) (w : World) (h : OwnS w B 2 1 ⟨a, n, cap⟩ (zs.map (Value.int .i64))) (hn : n ≤ 2097152) (hk0 : 0 ≤ k0) (hk1 : k0 ≤ 1099511627776) :
    Calls Try.prog 31 #[.agg #[.int .i64 c, .slice a n cap, .bool E], .int .i64 k0] w fun e w' => e = .returned (.int .i64 (k0 + n)) ∧
      OwnS w' B 2 1 ⟨a, n, cap⟩ ((imarks k0 n).map (Value.int .i64)) ∧ w.grownBy w' (a.map (·.block)) := by
  have HM := hide (fun o => markIS_any B a n cap zs k0 (w.alloc o) (h.keep (fun x hx => Below.heap_alloc w o _ (h.blk hx).2)) hn hk0 hk1)
  clear h
  go_enter Try.func31, Try.ntmps31
  go_wp2_with fail
  refine ((unhide HM) _).mono ?_
  rintro e w1 ⟨rfl, o1, g1⟩
  go_wp2_with fail
  go_ret
  exact ⟨rfl, o1, grownBy_trans (World.grownBy_alloc w _ _) g1⟩

set_option maxHeartbeats 1000000 in
theorem heldPath_any (n cap : Nat) (c : Int) (E : Bool) (a : Option Addr) (k0 : Int) (w : World) (h : IRow w a n (imarks k0 n)) (hn : n ≤ 2097152) (hk0 : 0 ≤ k0) (hk1 : k0 ≤ 1099511627776) :
    Calls Try.prog 32 #[.agg #[.int .i64 c, .slice a n cap, .bool E], .int .i64 k0] w fun e w' => e = .returned (.int .i64 (k0 + n)) ∧ Below w.heap.size w w' := by
  have hneg : decide (k0 + (n : Int) < 0) = false := decide_eq_false (by omega)
  have HM := hide (fun o => heldInt64S_any n cap a k0 (w.alloc o) (h.below (below_alloc w o) (Nat.le_refl _)) hn hk0 hk1)
  clear h
  go_enter Try.func32, Try.ntmps32
  go_wp2_with fail
  refine ((unhide HM) _).mono ?_
  rintro e w1 ⟨rfl, rfl⟩
  go_wp2_with fail
  go_ret
  exact ⟨rfl, below_alloc w _⟩

set_option maxHeartbeats 1000000 in
theorem eqPath_same (c : Int) (E : Bool) (a b : Option Addr) (n ca cb : Nat) (xs : List Int) (w : World) (ha : IRow w a n xs) (hb : IRow w b n xs) (hn : n ≤ 1048576) :
    Calls Try.prog 28 #[.agg #[.int .i64 c, .slice a n ca, .bool E], .agg #[.int .i64 c, .slice b n cb, .bool E]] w fun e w' => e = .returned (.bool true) ∧ Below w.heap.size w w' := by
  have h1 : (c != c) = false := by simp
  have h2 : (E != E) = false := by simp
  have sx : sameB xs xs = true := by simp [sameB]
  have hbel : ∀ o p, Below w.heap.size w ((w.alloc o).alloc p) := fun o p => ((Below.refl _ _).alloc (Nat.le_refl _) o).alloc (by simp) p
  go_enter Try.func28, Try.ntmps28
  go_wp2_with fail
  refine (eqInt64S_any _ _ _ _ _ _ xs xs _ (ha.below (hbel _ _) (Nat.le_refl _)) (hb.below (hbel _ _) (Nat.le_refl _)) hn hn).mono ?_
  rintro e w1 ⟨rfl, n1, rfl⟩
  rw [sx]
  go_wp2_with fail
  go_ret
  exact ⟨rfl, below_drewN (hbel _ _) n1⟩

end Go.Proofs.Ytihdmdbekdadlaa
