/- What is proved here: what firstBroken answers: the first code that is not 0 of rules that are asked in order. -/
import Derived.Test.YtnmbdannipebnaaGreatDoorJ28
import Derived.Test.YtnmbdannipebnaaGreatDoorJ17
import Derived.Test.YtnmbdannipebnaaGreatDoorJ10
import Derived.Deep.RegionHeld3
namespace Go.Proofs.YtnmbdannipebnaaGreatDoor
open Go.RowKit
set_option linter.unusedVariables false
set_option linter.unusedSimpArgs false
set_option maxRecDepth 100000

theorem fnz_drop (ks : List Int) (i : Nat) (k : Int) (h : ks[i]? = some k) : fnz (ks.drop i) = if k = 0 then fnz (ks.drop (i + 1)) else k := by
  obtain ⟨hk, e⟩ := List.getElem?_eq_some_iff.1 h
  rw [List.drop_eq_getElem_cons hk, e]
  rfl

set_option maxHeartbeats 4000000 in
theorem firstBroken_any (c : Cf) (e : SnS) (x : Sn) (px : HS) (p : Hd) (nx : HS) (n : Hd) (fs : List Nat) (ks : List Int) (b off cap : Nat) (w : World)
    (hr : ∀ (i f : Nat), fs[i]? = some f → w.cell? ⟨b, off + i, none⟩ = some (.func (.func f) #[] #[])) (hb : b < w.heap.size) (hl : ks.length = fs.length) (hl2 : fs.length ≤ 100) (EN : ∀ f ∈ fs, ∀ (V : Value) (W : World), (callFunc f #[V]).run Tryz.prog W = .ok (.enter f #[V]) W)
    (H : ∀ (i : Nat) (f : Nat) (k : Int), fs[i]? = some f → ks[i]? = some k → (∀ j, j < i → ks[j]? = some 0) → ∀ W, Below w.heap.size w W → Calls Tryz.prog f #[.agg (stvals c e x px p nx n)] W fun r w' => r = .returned (.int .i64 k) ∧ Below W.heap.size W w') :
    Calls Tryz.prog 50 #[.agg (stvals c e x px p nx n), .slice (some ⟨b, off, none⟩) fs.length cap] w fun r w' => r = .returned (.int .i64 (fnz ks)) ∧ Below w.heap.size w w' := by
  have kb := SBlk.new w (stvals c e x px p nx n) 81
  have bb := below_alloc w (.cells (stvals c e x px p nx n) 81)
  obtain ⟨W0, e0⟩ : ∃ W, w.alloc (.cells (stvals c e x px p nx n) 81) = W := ⟨_, rfl⟩
  rw [e0] at kb bb
  have HLD := hide (fun (W : World) (hb : Below W0.heap.size W0 W) => stLoad c e x px p nx n W w.heap.size (kb.below hb kb.lt))
  have HR : Hid (∀ W, Below W0.heap.size W0 W → ∀ (i f : Nat), fs[i]? = some f → W.cell? ⟨b, off + i, none⟩ = some (.func (.func f) #[] #[])) := fun W hw i f hi => (((bb.trans (hw.mono bb.size)).cell (p := ⟨b, off + i, none⟩) hb).trans (hr i f hi))
  have HH : Hid (∀ (i : Nat) (f : Nat) (k : Int), fs[i]? = some f → ks[i]? = some k → (∀ j, j < i → ks[j]? = some 0) → ∀ W, Below W0.heap.size W0 W → Calls Tryz.prog f #[.agg (stvals c e x px p nx n)] W fun r w' => r = .returned (.int .i64 k) ∧ Below W.heap.size W w') := fun i f k h1 h2 h3 W hw => H i f k h1 h2 h3 W (bb.trans (hw.mono bb.size))
  have HD := hide (fnz_drop ks)
  have HF : Hid (fnz ks = fnz (ks.drop 0)) := rfl
  have HE : Hid (∀ i, ks.length ≤ i → fnz (ks.drop i) = 0) := fun i hi => by rw [List.drop_eq_nil_of_le hi]; rfl
  have HEN := hide EN
  have HBB := hide bb
  have E0 := hide e0
  clear bb e0 kb hr hb H EN
  generalize stvals c e x px p nx n = V at HLD HH E0 ⊢
  generalize fnz ks = R at HF ⊢
  obtain ⟨len, hlen⟩ : ∃ len, len = fs.length := ⟨_, rfl⟩
  rw [← hlen] at hl hl2 ⊢
  have HLEN := hide hlen
  have HL := hide hl
  clear hlen hl
  go_enter Tryz.func50, Tryz.ntmps50
  go_upto_region 1 with fail
  rw [unhide E0]
  clear E0
  go_wp2_with fail
  go_loopw [10] (fun i wr => ∃ (k : Nat), k ≤ len ∧ i = .int .i64 k ∧ R = fnz (ks.drop k) ∧ (∀ j, j < k → ks[j]? = some 0) ∧ Below W0.heap.size W0 wr) (fun i _ => len - (intOf i).toNat)
  case atStart => exact ⟨0, Nat.zero_le _, rfl, unhide HF, fun j hj => absurd hj (Nat.not_lt_zero _), Below.refl _ _⟩
  case round =>
    obtain ⟨k, hk, rfl, hR, hz, hbr⟩ := hrel
    clear HF
    by_cases hlt : k < len
    · obtain ⟨f, hf⟩ : ∃ f, fs[k]? = some f := ⟨_, List.getElem?_eq_getElem (by rw [← unhide HLEN]; exact hlt)⟩
      obtain ⟨q, hq⟩ : ∃ q, ks[k]? = some q := ⟨_, List.getElem?_eq_getElem (by rw [unhide HL]; exact hlt)⟩
      have c0 := (unhide HR) wr hbr k f hf
      have hent := (unhide HEN) f (List.mem_of_getElem? hf) (.agg V) wr
      have D1 := hide ((unhide HH) k f q hf hq hz wr hbr)
      have HL1 := hide ((unhide HLD) wr hbr)
      have hs := (unhide HD) k q hq
      rw [hs] at hR
      have HRR := hide hR
      have HZ := hide hz
      have HQ := hide hq
      have HB := hide hbr
      have k1 : (0 : Int) ≤ (k : Int) := by omega
      have k2 : (k : Int) < (len : Int) := by omega
      clear hR hz hbr hs hf hq
      by_cases h0 : q = 0
      · subst h0
        have h1 : ((0 : Int) != 0) = false := by simp
        go_wp2_with (refine wpList_load_eq rfl 81 _ rfl _ _ rfl (unhide HL1) ?_)
        refine (unhide D1).mono ?_
        rintro r w2 ⟨rfl, b2⟩
        have HB2 := hide (bStep (unhide HB) b2)
        clear b2
        go_wp2_with fail
        go_roundw
        case rel =>
          exact ⟨k + 1, by omega, by go_num, by have := unhide HRR; simpa using this, fun j hj => by
            by_cases hjk : j < k
            · exact (unhide HZ) j hjk
            · obtain rfl : j = k := by omega
              exact unhide HQ, unhide HB2⟩
        case measure => simp [intOf]; omega
      · have h1 : (q != 0) = true := by simp [h0]
        have HRQ : Hid (R = q) := by show R = q; rw [unhide HRR, if_neg h0]
        clear h0
        go_wp2_with (refine wpList_load_eq rfl 81 _ rfl _ _ rfl (unhide HL1) ?_)
        refine (unhide D1).mono ?_
        rintro r w2 ⟨rfl, b2⟩
        have HB2 := hide (bStep (unhide HB) b2)
        clear b2
        go_wp2_with fail
        go_ret
        exact ⟨by rw [unhide HRQ]; rfl, (unhide HBB).trans ((unhide HB2).mono (unhide HBB).size)⟩
    · obtain rfl : k = len := by omega
      have hRz : R = 0 := by rw [hR]; exact (unhide HE) k (by rw [unhide HL]; exact Nat.le_refl _)
      have HRZ := hide hRz
      have HB := hide hbr
      clear hR hz hbr hRz
      go_wp2_with fail
      go_ret
      exact ⟨by rw [unhide HRZ]; rfl, (unhide HBB).trans ((unhide HB).mono (unhide HBB).size)⟩

end Go.Proofs.YtnmbdannipebnaaGreatDoor

/- What is proved here: what hardOf, hardRule and votingRule answer. -/
namespace Go.Proofs.YtnmbdannipebnaaGreatDoor
open Go.RowKit
set_option linter.unusedVariables false
set_option linter.unusedSimpArgs false
set_option maxRecDepth 100000

theorem fieldI1h (x y : Value) (w : World) : (Instr.field 139 (.agg #[x, y]) 1).run Tryz.prog w = .ok y w := by kernel_rfl
theorem ta_tc (w : World) : (Instr.typeAssert (.iface 122 (.agg #[])) 77 123 true).run Tryz.prog w = .ok (.tuple #[.agg #[], .bool false]) w := by kernel_rfl

set_option maxHeartbeats 2000000 in
theorem hardOf_any (c : Cf) (e : SnS) (x : Sn) (s : Sl) (z : List Int) (m : Int) (w : World) (o : SNK.Ok w e x) (q : BOk w s z) (ms : SnSm x) (mz : z.length ≤ 1048576) (hc : c.1 = 1 ∨ c.1 = 2) :
    Calls Tryz.prog 62 #[.agg (cfvals c), .agg (snvals e x), .slice s.a s.n s.c, .int .i64 m] w fun r w' => r = .returned (.int .i64 (if c.1 = 2 then 1 else trVal x z m)) ∧ Below w.heap.size w w' := by
  obtain ⟨k0, k1, bb⟩ := two_sblk w (cfvals c) (snvals e x) 35 40
  obtain ⟨W0, e0⟩ : ∃ W, (w.alloc (.cells (cfvals c) 35)).alloc (.cells (snvals e x) 40) = W := ⟨_, rfl⟩
  rw [e0] at k0 k1 bb
  have c0 : W0.cell? ⟨w.heap.size, 0, none⟩ = some (.int .i64 c.1) := k0.cell 0
  have c1 : W0.cell? ⟨w.heap.size, 1, none⟩ = some (.int .i64 c.2.1) := k0.cell 1
  have c2 : W0.cell? ⟨w.heap.size, 2, none⟩ = some (.int .i64 c.2.2) := k0.cell 2
  have D1 := hide (modeOf_any c W0 hc)
  have D2 : Hid (∀ W, Below W0.heap.size W0 W → Calls Tryz.prog 110 #[.agg (snvals e x), .slice s.a s.n s.c, .int .i64 m] W fun r w' => r = .returned (.agg #[.int .i64 (trCode x z m), .int .i64 (trVal x z m)]) ∧ Below W.heap.size W w') := fun W hb => implTurnOf_any e x s z m W (SNK.below o (bb.trans (hb.mono bb.size)) (Nat.le_refl _)) (bytesK.below q (bb.trans (hb.mono bb.size)) (Nat.le_refl _)) ms mz
  have HS : Hid (∀ W, Below W0.heap.size W0 W → W.cell? ⟨w.heap.size + 1, 0, none⟩ = some (.int .i64 x.1) ∧ W.cell? ⟨w.heap.size + 1, 1, none⟩ = some (.slice e.2.1.a e.2.1.n e.2.1.c) ∧ W.cell? ⟨w.heap.size + 1, 2, none⟩ = some (.slice e.2.2.1.a e.2.2.1.n e.2.2.1.c) ∧ W.cell? ⟨w.heap.size + 1, 3, none⟩ = some (.slice e.2.2.2.a e.2.2.2.n e.2.2.2.c)) := fun W hb => ⟨(k1.below hb k1.lt).cell 0, (k1.below hb k1.lt).cell 1, (k1.below hb k1.lt).cell 2, (k1.below hb k1.lt).cell 3⟩
  have HBB := hide bb
  have E0 := hide e0
  have t0 := ta_tc
  have t1 := ta_cc
  have hfi := fieldI1h
  clear bb e0 k0 k1 o q ms mz
  obtain ⟨V, hV⟩ : ∃ V, (if c.1 = 2 then 1 else trVal x z m) = V := ⟨_, rfl⟩
  rw [hV]
  obtain ⟨c0', c1', c2'⟩ := c
  simp only at hc hV
  unfold cfvals at D1 E0 ⊢
  unfold snvals at D2 E0 ⊢
  rcases hc with rfl | rfl
  · have hn : ¬ ((1 : Int) = 2) := by omega
    rw [if_neg hn] at hV
    simp only [if_neg hn] at D1
    subst hV
    go_enter Tryz.func62, Tryz.ntmps62
    go_upto_region 1 with fail
    rw [unhide E0]
    clear E0
    go_wp2_with fail
    refine (unhide D1).mono ?_
    rintro r w1 ⟨rfl, b1⟩
    obtain ⟨s0, s1, s2, s3⟩ := (unhide HS) w1 b1
    go_wp2_with fail
    refine ((unhide D2) w1 b1).mono ?_
    rintro r w2 ⟨rfl, b2⟩
    go_wp2_with fail
    go_ret
    exact ⟨rfl, (unhide HBB).trans ((bStep b1 b2).mono (unhide HBB).size)⟩
  · rw [if_pos rfl] at hV
    simp only [if_true] at D1
    subst hV
    go_enter Tryz.func62, Tryz.ntmps62
    go_upto_region 1 with fail
    rw [unhide E0]
    clear E0
    go_wp2_with fail
    refine (unhide D1).mono ?_
    rintro r w1 ⟨rfl, b1⟩
    go_wp2_with fail
    go_ret
    exact ⟨rfl, (unhide HBB).trans (b1.mono (unhide HBB).size)⟩

set_option maxHeartbeats 2000000 in
theorem hardRule_any (c : Cf) (e : SnS) (x : Sn) (px : HS) (p : Hd) (nx : HS) (n : Hd) (w : World) (o : StOk w e x px p nx n) (hc : c.1 = 1 ∨ c.1 = 2) :
    Calls Tryz.prog 94 #[.agg (stvals c e x px p nx n)] w fun r w' => r = .returned (.int .i64 (unl (n.n3 == hdV c x n) 8)) ∧ Below w.heap.size w w' := by
  have kb := SBlk.new w (stvals c e x px p nx n) 81
  have bb := below_alloc w (.cells (stvals c e x px p nx n) 81)
  obtain ⟨W0, e0⟩ : ∃ W, w.alloc (.cells (stvals c e x px p nx n) 81) = W := ⟨_, rfl⟩
  rw [e0] at kb bb
  replace o := o.below bb (Nat.le_refl _)
  have k0 : W0.cell? ⟨w.heap.size, 0, none⟩ = some (.int .i64 c.1) := kb.cell 0
  have k1 : W0.cell? ⟨w.heap.size, 1, none⟩ = some (.int .i64 c.2.1) := kb.cell 1
  have k2 : W0.cell? ⟨w.heap.size, 2, none⟩ = some (.int .i64 c.2.2) := kb.cell 2
  have k3 : W0.cell? ⟨w.heap.size, 3, none⟩ = some (.int .i64 x.1) := kb.cell 3
  have k4 : W0.cell? ⟨w.heap.size, 4, none⟩ = some (.slice e.2.1.a e.2.1.n e.2.1.c) := kb.cell 4
  have k5 : W0.cell? ⟨w.heap.size, 5, none⟩ = some (.slice e.2.2.1.a e.2.2.1.n e.2.2.1.c) := kb.cell 5
  have k6 : W0.cell? ⟨w.heap.size, 6, none⟩ = some (.slice e.2.2.2.a e.2.2.2.n e.2.2.2.c) := kb.cell 6
  have k19 : W0.cell? ⟨w.heap.size, 19, none⟩ = some (.int .i64 n.n1) := kb.cell 19
  have k21 : W0.cell? ⟨w.heap.size, 21, none⟩ = some (.int .i64 n.n3) := kb.cell 21
  have k26 : W0.cell? ⟨w.heap.size, 26, none⟩ = some (.slice nx.g.a nx.g.n nx.g.c) := kb.cell 26
  have D1 := hide (hardOf_any c e x nx.g n.g n.n1 W0 o.os o.on.g o.ms o.mn.g hc)
  have HS : Hid (∀ W, Below W0.heap.size W0 W → W.cell? ⟨w.heap.size, 21, none⟩ = some (.int .i64 n.n3)) := fun W hb => (kb.below hb kb.lt).cell 21
  have HV : Hid ((if c.1 = 2 then 1 else trVal x n.g n.n1) = hdV c x n) := rfl
  rw [unhide HV] at D1
  unfold cfvals snvals at D1
  have DU := hide (fun W => codeUnless_any (n.n3 == hdV c x n) 8 W)
  have HBB := hide bb
  have E0 := hide e0
  clear bb e0 kb o
  unfold stvals at E0 ⊢
  go_enter Tryz.func94, Tryz.ntmps94
  go_upto_region 1 with fail
  rw [unhide E0]
  clear E0
  go_wp2_with fail
  refine (unhide D1).mono ?_
  rintro r w1 ⟨rfl, b1⟩
  have k21b := (unhide HS) w1 b1
  go_wp2_with fail
  refine ((unhide DU) _).mono ?_
  rintro r w9 ⟨rfl, rfl⟩
  go_wp2_with fail
  go_ret
  exact ⟨rfl, (unhide HBB).trans (b1.mono (unhide HBB).size)⟩

set_option maxHeartbeats 2000000 in
theorem votingRule_any (c : Cf) (e : SnS) (x : Sn) (px : HS) (p : Hd) (nx : HS) (n : Hd) (w : World) (o : StOk w e x px p nx n) (hc : cfFlt c = 0) (hn : hdFlt n = 0) :
    Calls Tryz.prog 49 #[.agg (stvals c e x px p nx n)] w fun r w' => r = .returned (.int .i64 (unl (vtB c x n) 8)) ∧ Below w.heap.size w w' := by
  have kb := SBlk.new w (stvals c e x px p nx n) 81
  have bb := below_alloc w (.cells (stvals c e x px p nx n) 81)
  obtain ⟨W0, e0⟩ : ∃ W, w.alloc (.cells (stvals c e x px p nx n) 81) = W := ⟨_, rfl⟩
  rw [e0] at kb bb
  replace o := o.below bb (Nat.le_refl _)
  have k0 : W0.cell? ⟨w.heap.size, 0, none⟩ = some (.int .i64 c.1) := kb.cell 0
  have k1 : W0.cell? ⟨w.heap.size, 1, none⟩ = some (.int .i64 c.2.1) := kb.cell 1
  have k2 : W0.cell? ⟨w.heap.size, 2, none⟩ = some (.int .i64 c.2.2) := kb.cell 2
  have k4 : W0.cell? ⟨w.heap.size, 4, none⟩ = some (.slice e.2.1.a e.2.1.n e.2.1.c) := kb.cell 4
  have k19 : W0.cell? ⟨w.heap.size, 19, none⟩ = some (.int .i64 n.n1) := kb.cell 19
  have k22 : W0.cell? ⟨w.heap.size, 22, none⟩ = some (.slice nx.t.a nx.t.n nx.t.c) := kb.cell 22
  have k23 : W0.cell? ⟨w.heap.size, 23, none⟩ = some (.int .i64 n.n5) := kb.cell 23
  have k24 : W0.cell? ⟨w.heap.size, 24, none⟩ = some (.slice nx.s.a nx.s.n nx.s.c) := kb.cell 24
  have D1 := hide (fun (W : World) => implCheckpoint_any c n.n1 W)
  unfold cfvals at D1
  have lt : nx.t.n = n.t.length := o.on.ok.t.1.symm
  have ls : nx.s.n = n.s.length := o.on.ok.s.1.symm
  have D2 := hide (fun (W : World) (hb : Below W0.heap.size W0 W) => sameLists_to nx.s.a e.2.1.a nx.s.n nx.s.c e.2.1.n e.2.1.c n.s x.2.1 _ W ((o.on.ok.s).below hb (Nat.le_refl _)) ((bs_of_row o.os.2.1).below hb (Nat.le_refl _)) (by rw [ls]; exact o.mn.s) (by rw [show e.2.1.n = x.2.1.length from o.os.2.1.len]; exact o.ms.s) rfl)
  have HS : Hid (∀ W, Below W0.heap.size W0 W → W.cell? ⟨w.heap.size, 0, none⟩ = some (.int .i64 c.1) ∧ W.cell? ⟨w.heap.size, 1, none⟩ = some (.int .i64 c.2.1) ∧ W.cell? ⟨w.heap.size, 2, none⟩ = some (.int .i64 c.2.2) ∧ W.cell? ⟨w.heap.size, 4, none⟩ = some (.slice e.2.1.a e.2.1.n e.2.1.c) ∧ W.cell? ⟨w.heap.size, 19, none⟩ = some (.int .i64 n.n1) ∧ W.cell? ⟨w.heap.size, 22, none⟩ = some (.slice nx.t.a nx.t.n nx.t.c) ∧ W.cell? ⟨w.heap.size, 23, none⟩ = some (.int .i64 n.n5) ∧ W.cell? ⟨w.heap.size, 24, none⟩ = some (.slice nx.s.a nx.s.n nx.s.c)) := fun W hb => ⟨(kb.below hb kb.lt).cell 0, (kb.below hb kb.lt).cell 1, (kb.below hb kb.lt).cell 2, (kb.below hb kb.lt).cell 4, (kb.below hb kb.lt).cell 19, (kb.below hb kb.lt).cell 22, (kb.below hb kb.lt).cell 23, (kb.below hb kb.lt).cell 24⟩
  have DU := hide (fun b W => codeUnless_any b 8 W)
  have HVT : Hid (vtB c x n = if cfCk c n.n1 = true then (n.t.length == 0) && ((n.n5 == 0) && sameLs n.s x.2.1) else ((n.t.length == 0) == (n.n5 == 0)) && (n.s.length == 0)) := rfl
  have q1 : decide (((nx.t.n : Nat) : Int) > 0) = !(n.t.length == 0) := by rw [lt]; cases n.t <;> simp
  have q1' : decide (0 < ((nx.t.n : Nat) : Int)) = !(n.t.length == 0) := q1
  have q1n : decide (0 < nx.t.n) = !(n.t.length == 0) := by rw [lt]; cases n.t <;> simp
  have q2 : (((nx.s.n : Nat) : Int) == 0) = (n.s.length == 0) := by rw [ls]; cases n.s <;> rfl
  have q3 : (n.n5 != 0) = !(n.n5 == 0) := rfl
  clear lt ls
  generalize vtB c x n = B at HVT ⊢
  generalize cfCk c n.n1 = K at D1 HVT
  generalize sameLs n.s x.2.1 = SL at D2 HVT
  generalize (n.t.length == 0) = T0 at q1 q1' q1n HVT
  generalize (n.n5 == 0) = N0 at q3 HVT
  generalize (n.s.length == 0) = S0 at q2 HVT
  have HBB := hide bb
  have E0 := hide e0
  clear bb e0 kb o
  unfold stvals at E0 ⊢
  go_enter Tryz.func49, Tryz.ntmps49
  go_upto_region 1 with fail
  rw [unhide E0]
  clear E0
  go_region_held3 (fun W => W.cell? ⟨w.heap.size, 22, none⟩ = some (.slice nx.t.a nx.t.n nx.t.c) ∧ W.cell? ⟨w.heap.size, 23, none⟩ = some (.int .i64 n.n5))
    (exact ⟨((unhide HS) _ (by first | exact (Below.refl _ _).drew | exact below_drewN (Below.refl _ _) _ | exact Below.refl _ _)).2.2.2.2.2.1, ((unhide HS) _ (by first | exact (Below.refl _ _).drew | exact below_drewN (Below.refl _ _) _ | exact Below.refl _ _)).2.2.2.2.2.2.1⟩)
    (first | fail)
  have B1 : Below W0.heap.size W0 W0.drew := (Below.refl _ _).drew
  obtain ⟨W1, e1⟩ : ∃ W, W0.drew = W := ⟨_, rfl⟩
  rw [e1] at B1 ⊢
  obtain ⟨a0, a1, a2, a4, a19, a22, a23, a24⟩ := (unhide HS) W1 B1
  clear e1 k0 k1 k2 k4 k19 k22 k23 k24
  cases K
  · have HB : Hid (B = ((T0 == N0) && S0)) := unhide HVT
    clear HVT D2
    cases T0 <;> cases N0 <;> simp only [Bool.not_true, Bool.not_false] at q1 q1' q1n q3
    all_goals
      go_wp2_with fail
      refine ((unhide D1) W1).mono ?_
      rintro r w1 ⟨rfl, b1'⟩
      have b1 := bStep B1 b1'
      clear a0 a1 a2 a4 a19 a22 a23 a24
      obtain ⟨s0, s1, s2, s4, s19, s22, s23, s24⟩ := (unhide HS) w1 b1
      go_wp2_with fail
      refine ((unhide DU) _ _).mono ?_
      rintro r w9 ⟨rfl, rfl⟩
      go_wp2_with fail
      go_ret
      exact ⟨by rw [unhide HB]; rfl, (unhide HBB).trans (b1.mono (unhide HBB).size)⟩
  · have HB : Hid (B = (T0 && (N0 && SL))) := unhide HVT
    clear HVT
    cases T0 <;> cases N0 <;> simp only [Bool.not_true, Bool.not_false] at q1 q1' q1n q3
    all_goals
      go_wp2_with fail
      refine ((unhide D1) W1).mono ?_
      rintro r w1 ⟨rfl, b1'⟩
      have b1 := bStep B1 b1'
      clear a0 a1 a2 a4 a19 a22 a23 a24
      obtain ⟨s0, s1, s2, s4, s19, s22, s23, s24⟩ := (unhide HS) w1 b1
      have D3 := hide ((unhide D2) w1 b1)
      go_wp2_with fail
      first
        | (refine (unhide D3).mono ?_
           rintro r w2 ⟨rfl, rfl⟩
           go_wp2_with fail
           refine ((unhide DU) _ _).mono ?_
           rintro r w9 ⟨rfl, rfl⟩
           go_wp2_with fail
           go_ret
           exact ⟨by rw [unhide HB]; rfl, (unhide HBB).trans (b1.mono (unhide HBB).size)⟩)
        | (refine ((unhide DU) _ _).mono ?_
           rintro r w9 ⟨rfl, rfl⟩
           go_wp2_with fail
           go_ret
           exact ⟨by rw [unhide HB]; rfl, (unhide HBB).trans (b1.mono (unhide HBB).size)⟩)

end Go.Proofs.YtnmbdannipebnaaGreatDoor

/- What is proved here: what modeRules answers; what slices.Grow and slices.Concat answer at rows of functions. -/
namespace Go.Proofs.YtnmbdannipebnaaGreatDoor
open Go.RowKit
set_option linter.unusedVariables false
set_option linter.unusedSimpArgs false
set_option maxRecDepth 100000

/-- Functions as values. -/
def fvs (fs : List Nat) : List Value := fs.map fun f => .func (.func f) #[] #[]

theorem infoR : (Tryz.prog.info? 75).map (fun i => (i.zero, i.size, i.bytes)) = some (some .nilFunc, 1, 8) := by kernel_rfl

set_option maxHeartbeats 1000000 in
theorem growR_any (n : Nat) (w : World) (h1 : 0 < n) (hn : n ≤ 100) :
    Calls Tryz.prog 91 #[.slice none 0 0, .int .i64 n] w fun e w' => ∃ (a' : Option Addr) (cap' : Nat), e = .returned (.slice a' 0 cap') ∧ w'.ownsRow w.heap.size 75 1 (.slice a' 0 cap') 0 [] ∧ Below w.heap.size w w' := by
  obtain ⟨i0, hi, hz0, hz1, hz2⟩ := info_parts infoR
  have q1 : decide ((n : Int) < 0) = false := decide_eq_false (by omega)
  have q2 : decide ((n : Int) > 0) = true := decide_eq_true (by omega)
  have q3 : decide (0 < (n : Int)) = true := decide_eq_true (by omega)
  have q4 : decide (0 < n) = true := decide_eq_true (by omega)
  obtain ⟨C, W', hrun, hown, hbel⟩ : ∃ C W', (Builtin.append_ #[73, 3] 73 #[.slice none 0 0, .int .i64 n]).run Tryz.prog w = .ok (.slice (some ⟨w.heap.size, 0, none⟩) n C) W' ∧ W'.ownsRow w.heap.size 75 1 (.slice (some ⟨w.heap.size, 0, none⟩) 0 C) 0 [] ∧ Below w.heap.size w W' := by
    have hr := Lib.run_append_nil_zeros (P := Tryz.prog) w 73 3 73 75 i0 .nilFunc .i64 .i64 Tryz.underlying73 Tryz.underlying3 hi hz0 n (by omega) (by omega) (by omega) (by rw [hz2]; omega)
    have hge := grownCap_ge w n 0 75
    have hle := grownCap_le_maxLen w n 0 75 (by unfold maxLen; omega)
    refine ⟨_, _, hr, ⟨rfl, .inr ⟨w.heap.size, _, _, rfl, Nat.le_refl _, heap_alloc_new w.drew _, Nat.zero_le _, hle, ?_, by simp⟩⟩, ?_⟩
    · rw [Array.size_append, size_zeroCells, size_zeroCells]
      simp [Value.cells]
      omega
    · exact (Below.refl _ _).drew.alloc (Nat.le_refl _) _
  have HR := hide hrun
  have HO := hide hown
  have HB := hide hbel
  clear hrun hown hbel
  go_enter Tryz.func91, Tryz.ntmps91
  go_wp2_with (at_builtin; refine Lib.wpList_append_run _ rfl _ _ 73 3 rfl _ _ rfl rfl _ _ (unhide HR) ?_)
  go_wp2_with fail
  go_ret
  exact ⟨_, C, by simp, unhide HO, unhide HB⟩

/-- A row of functions. -/
def FR (w : World) (s : Sl) (fs : List Nat) : Prop :=
  s.n = fs.length ∧ ((s.a = none ∧ fs = [] ∧ s.c = 0) ∨ ∃ b, s.a = some ⟨b, 0, none⟩ ∧ ∀ (j f : Nat), fs[j]? = some f → w.cell? ⟨b, j, none⟩ = some (.func (.func f) #[] #[]))

theorem FR.below {w w' : World} {s : Sl} {fs : List Nat} (h : FR w s fs) {B : Nat} (hb : Below B w w') (hB : w.heap.size ≤ B) : FR w' s fs := by
  refine ⟨h.1, ?_⟩
  rcases h.2 with h2 | ⟨b, ha, hc⟩
  · exact .inl h2
  · refine .inr ⟨b, ha, fun j f hj => ?_⟩
    have := hc j f hj
    exact (hb.cell (p := ⟨b, j, none⟩) (Nat.lt_of_lt_of_le (lt_of_cell this) hB)).trans this

theorem wpList_append_frow {P : Program} (w : World) {ops : Array Oper} {rest : List Oper} {o : Oper} {a : Act} {Q : Exit → Act → World → Prop} (hgd : o.guard = none) (s x : Operand) (t T : TypeId)
    (ho : o.op = .call { callee := .builtin .append, args := #[s, x], argTypes := #[t, t] }) (base : Nat) (i : TypeInfo) (ht : P.underlying t = some (.slice T)) (hi : P.info? T = some i) (hz : i.zero = some .nilFunc) (hsize : i.size = 1) (hby : i.bytes = 8)
    (v : Value) (n : Nat) (xs : List Nat) (hs : a.eval s = v) (hown : w.ownsRow base T 1 v n (fvs xs)) (ad : Sl) (zs : List Nat) (hx : a.eval x = .slice ad.a ad.n ad.c) (hr : FR w ad zs)
    (h63 : n + ad.n ≤ 1048576) (hbase : base ≤ w.heap.size)
    (h : ∀ a' c' w', w'.ownsRow base T 1 (.slice a' (n + ad.n) c') (n + ad.n) (fvs (xs ++ zs)) → w.grownBy w' v.ownBlock → wpList P ops Q rest (a.put o.dst (.slice a' (n + ad.n) c')) w') : wpList P ops Q (o :: rest) a w := by
  obtain ⟨sa, sn, sc⟩ := ad
  obtain ⟨hn, hrr⟩ := hr
  simp only at hn hrr hx h63 h
  rcases hrr with ⟨rfl, rfl, rfl⟩ | ⟨b, rfl, hc⟩
  · obtain rfl : sn = 0 := hn
    refine wpList_append_own_none hgd s x t ho base T i 1 ht hi v n _ hs hown hx ?_
    obtain ⟨a', c', hv⟩ := own_shape hown
    have := h a' c' w (by rw [Nat.add_zero, List.append_nil, ← hv]; exact hown) (grownBy_refl w _)
    rw [Nat.add_zero, ← hv] at this
    exact this
  · refine wpList_append_own w hgd s x t ho base T i .nilFunc 1 8 ht hi hz hsize hby rfl (by decide) v n _ hs hown ⟨b, 0, none⟩ sn sc (fvs zs) hx (by simp [fvs, hn]) ?_ ?_ ?_ ?_ hbase ?_
    · intro j u hj
      have hj' : (fvs zs)[j]? = some u := hj
      unfold fvs at hj'
      rw [List.getElem?_map] at hj'
      obtain ⟨f, hf, rfl⟩ := Option.map_eq_some_iff.1 hj'
      rw [Addr.add_mid, Nat.zero_add]
      exact hc j f hf
    · intro u hu; obtain ⟨z, _, rfl⟩ := List.mem_map.1 hu; rfl
    · unfold maxLen; omega
    · omega
    · intro v' w' hown' hg _
      obtain ⟨a', c', hv⟩ := own_shape hown'
      rw [hv] at hown' ⊢
      exact h a' c' w' (by rw [show fvs (xs ++ zs) = fvs xs ++ fvs zs from List.map_append]; exact hown') hg

theorem fl_snoc (zss : List (List Nat)) (k : Nat) (z : List Nat) (h : zss[k]? = some z) : (zss.take (k + 1)).flatten = (zss.take k).flatten ++ z := by
  obtain ⟨hk, e⟩ := List.getElem?_eq_some_iff.1 h
  rw [List.take_succ_eq_append_getElem hk, List.flatten_append, e]
  simp

theorem fl_take (zss : List (List Nat)) (k : Nat) : (zss.take k).flatten.length ≤ zss.flatten.length := by
  have : zss.flatten = (zss.take k).flatten ++ (zss.drop k).flatten := by rw [← List.flatten_append, List.take_append_drop]
  rw [this, List.length_append]
  omega

set_option maxHeartbeats 4000000 in
theorem concatR_any (g len cap : Nat) (es : List Sl) (zss : List (List Nat)) (w : World) (hl : es.length = len) (hl2 : zss.length = len) (hl3 : len ≤ 10) (hc : ∀ (i : Nat) (e : Sl), es[i]? = some e → w.cell? ⟨g, i, none⟩ = some (.slice e.a e.n e.c))
    (hf : ∀ (i : Nat) (e : Sl) (z : List Nat), es[i]? = some e → zss[i]? = some z → FR w e z) (h0 : 0 < zss.flatten.length) (hz : zss.flatten.length ≤ 100) :
    Calls Tryz.prog 46 #[.slice (some ⟨g, 0, none⟩) len cap] w fun e w' => ∃ a' c', e = .returned (.slice a' zss.flatten.length c') ∧
      w'.ownsRow w.heap.size 75 1 (.slice a' zss.flatten.length c') zss.flatten.length (fvs zss.flatten) ∧ Below w.heap.size w w' := by
  obtain ⟨i0, hi, hz0, hz1, hz2⟩ := info_parts infoR
  have HC : Hid (∀ W, Below w.heap.size w W → ∀ (k : Nat), k < len → ∃ e z, zss[k]? = some z ∧ W.cell? ⟨g, k, none⟩ = some (.slice e.a e.n e.c) ∧ FR W e z) := fun W hb k hk => by
    obtain ⟨e, he⟩ : ∃ e, es[k]? = some e := ⟨_, List.getElem?_eq_getElem (by rw [hl]; exact hk)⟩
    obtain ⟨z, hz⟩ : ∃ z, zss[k]? = some z := ⟨_, List.getElem?_eq_getElem (by rw [hl2]; exact hk)⟩
    have h1 := hc k e he
    exact ⟨e, z, hz, (hb.cell (p := ⟨g, k, none⟩) (lt_of_cell h1)).trans h1, (hf k e z he hz).below hb (Nat.le_refl _)⟩
  have HTK := hide (fl_take zss)
  have HFL := hide (fl_snoc zss)
  have HL := hide hl2
  clear hc hf hl hl2
  go_enter Tryz.func46, Tryz.ntmps46
  go_wp2_with fail
  go_loopw [3, 11] (fun q i wr => ∃ (k : Nat), k ≤ len ∧ i = .int .i64 k ∧ q = .int .i64 ((zss.take k).flatten.length : Nat) ∧ Below w.heap.size w wr) (fun _ i _ => len - (intOf i).toNat)
  case atStart => exact ⟨0, Nat.zero_le _, rfl, rfl, Below.refl _ _⟩
  case round =>
    obtain ⟨k, hk, rfl, rfl, hbr⟩ := hrel
    by_cases hlt : k < len
    · obtain ⟨e, z, hit, c0, r1⟩ := (unhide HC) wr hbr k hlt
      have hs := (unhide HFL) k z hit
      have hzl : e.n = z.length := r1.1
      have h1 := (unhide HTK) (k + 1)
      have hle : (zss.take (k + 1)).flatten.length = (zss.take k).flatten.length + e.n := by rw [hs, List.length_append, hzl]
      obtain ⟨m, hm⟩ : ∃ m, m = (zss.take k).flatten.length := ⟨_, rfl⟩
      rw [← hm] at hle ⊢
      have hmn : m + e.n ≤ 100 := by omega
      have HLE := hide hle
      have HB := hide hbr
      have k1 : (0 : Int) ≤ (k : Int) := by omega
      have k2 : (k : Int) < (len : Int) := by omega
      have k3 : decide ((m : Int) + (e.n : Int) < 0) = false := decide_eq_false (by omega)
      clear hs hzl h1 hle hm hbr r1 hit
      go_wp2_with fail
      go_roundw
      case rel => exact ⟨k + 1, by omega, by go_num, by rw [unhide HLE]; go_num, unhide HB⟩
      case measure => simp [intOf]; omega
    · obtain rfl : k = len := by omega
      have et : zss.take k = zss := List.take_of_length_le (by rw [unhide HL]; exact Nat.le_refl _)
      rw [et]
      obtain ⟨T, hT⟩ : ∃ T, T = zss.flatten.length := ⟨_, rfl⟩
      rw [← hT] at hz h0 ⊢
      have HG := hide (growR_any T wr h0 hz)
      have HB := hide hbr
      have HT := hide hT
      clear et hbr hT
      go_wp2_with fail
      refine (unhide HG).mono ?_
      rintro e w2 ⟨a2, c2, rfl, o2, b2⟩
      have B2 := (unhide HB).trans (b2.mono (unhide HB).size)
      have O2 : w2.ownsRow w.heap.size 75 1 (.slice a2 0 c2) 0 (fvs []) := ownsRow_base o2 (unhide HB).size
      have HB2 := hide B2
      have HO2 := hide O2
      clear HG o2 b2 B2 O2 HB
      go_wp2_with fail
      go_loopw [6, 27] (fun s i wr => ∃ (j m : Nat) (ab : Option Addr) (cb : Nat), j ≤ k ∧ i = .int .i64 j ∧ m = (zss.take j).flatten.length ∧ s = .slice ab m cb ∧ wr.ownsRow w.heap.size 75 1 (.slice ab m cb) m (fvs (zss.take j).flatten) ∧ Below w.heap.size w wr) (fun _ i _ => k - (intOf i).toNat)
      case atStart => exact ⟨0, 0, _, _, Nat.zero_le _, rfl, rfl, rfl, unhide HO2, unhide HB2⟩
      case round =>
        obtain ⟨j, m, ab, cb, hj, rfl, hm, rfl, ob, hbr⟩ := hrel
        clear HO2 HB2
        by_cases hlt : j < k
        · obtain ⟨e, z, hit, c0, r1⟩ := (unhide HC) wr hbr j hlt
          have hs := (unhide HFL) j z hit
          have hzl : e.n = z.length := r1.1
          have h1 := (unhide HTK) (j + 1)
          have hle : (zss.take (j + 1)).flatten.length = m + e.n := by rw [hs, List.length_append, hzl, hm]
          have hmn : m + e.n ≤ 100 := by have := unhide HT; omega
          have HLE := hide hle
          have HS := hide hs
          have HM := hide hm
          have HR := hide r1
          generalize (zss.take j).flatten = L at ob HS HM
          have HOB := hide ob
          have HB := hide hbr
          have k1 : (0 : Int) ≤ (j : Int) := by omega
          have k2 : (j : Int) < (k : Int) := by omega
          clear hs hzl h1 hle hm hbr r1 hit ob
          go_wp2_with (at_builtin; refine wpList_append_frow _ rfl _ _ 73 75 rfl w.heap.size i0 Tryz.underlying73 hi hz0 hz1 hz2 _ m L rfl (unhide HOB) e z rfl (unhide HR) (by omega) (unhide HB).size ?_)
          intro a3 c3 w3 o3 g3
          have B3 : Below w.heap.size w w3 := (unhide HB).grown g3 (unhide HB).size (fun g e => ((unhide HOB).lt g e).1)
          have HO3 := hide o3
          have HB3 := hide B3
          clear o3 B3 g3 HB HOB
          go_wp2_with fail
          go_roundw
          case rel => exact ⟨j + 1, m + e.n, a3, c3, by omega, by go_num, (unhide HLE).symm, rfl, by rw [unhide HS]; exact unhide HO3, unhide HB3⟩
          case measure => simp [intOf]; omega
        · obtain rfl : j = k := by omega
          have et : zss.take j = zss := List.take_of_length_le (by rw [unhide HL]; exact Nat.le_refl _)
          rw [et] at hm ob
          have hTm : T = m := by rw [hm]; exact unhide HT
          subst hTm
          have HB := hide hbr
          have HOB := hide ob
          clear et hm ob hbr
          go_wp2_with fail
          go_ret
          rw [← unhide HT]
          exact ⟨ab, cb, rfl, unhide HOB, unhide HB⟩

set_option maxHeartbeats 1000000 in
theorem modeRules_t (w : World) : Calls Tryz.prog 47 #[.iface 122 (.agg #[])] w fun r w' => ∃ s : Sl, r = .returned (.slice s.a s.n s.c) ∧ FR w' s [92, 93, 94] ∧ Below w.heap.size w w' := by
  have t0 := ta_tt
  have kb := SBlk.new w #[.func (.func 92) #[] #[], .func (.func 93) #[] #[], .func (.func 94) #[] #[]] 75
  have bb := below_alloc w (.cells #[.func (.func 92) #[] #[], .func (.func 93) #[] #[], .func (.func 94) #[] #[]] 75)
  have HF : Hid (FR (w.alloc (.cells #[.func (.func 92) #[] #[], .func (.func 93) #[] #[], .func (.func 94) #[] #[]] 75)) ⟨some ⟨w.heap.size, 0, none⟩, 3, 3⟩ [92, 93, 94]) := ⟨rfl, .inr ⟨w.heap.size, rfl, fun j f hj => by
    rw [kb.cell j]
    match j, hj with
    | 0, hj => cases hj; rfl
    | 1, hj => cases hj; rfl
    | 2, hj => cases hj; rfl
    | j + 3, hj => cases hj⟩⟩
  have HBB := hide bb
  clear kb bb
  go_enter Tryz.func47, Tryz.ntmps47
  go_wp2
  go_ret
  exact ⟨⟨some ⟨w.heap.size, 0, none⟩, 3, 3⟩, rfl, unhide HF, unhide HBB⟩

set_option maxHeartbeats 1000000 in
theorem modeRules_c (w : World) : Calls Tryz.prog 47 #[.iface 123 (.agg #[])] w fun r w' => ∃ s : Sl, r = .returned (.slice s.a s.n s.c) ∧ FR w' s [94, 95] ∧ Below w.heap.size w w' := by
  have t0 := ta_ct
  have t1 := ta_cc
  have kb := SBlk.new w #[.func (.func 94) #[] #[], .func (.func 95) #[] #[]] 75
  have bb := below_alloc w (.cells #[.func (.func 94) #[] #[], .func (.func 95) #[] #[]] 75)
  have HF : Hid (FR (w.alloc (.cells #[.func (.func 94) #[] #[], .func (.func 95) #[] #[]] 75)) ⟨some ⟨w.heap.size, 0, none⟩, 2, 2⟩ [94, 95]) := ⟨rfl, .inr ⟨w.heap.size, rfl, fun j f hj => by
    rw [kb.cell j]
    match j, hj with
    | 0, hj => cases hj; rfl
    | 1, hj => cases hj; rfl
    | j + 2, hj => cases hj⟩⟩
  have HBB := hide bb
  clear kb bb
  go_enter Tryz.func47, Tryz.ntmps47
  go_wp2
  go_ret
  exact ⟨⟨some ⟨w.heap.size, 0, none⟩, 2, 2⟩, rfl, unhide HF, unhide HBB⟩

theorem ta_nt (w : World) : (Instr.typeAssert .nilIface 77 122 true).run Tryz.prog w = .ok (.tuple #[.agg #[], .bool false]) w := by kernel_rfl
theorem ta_nc (w : World) : (Instr.typeAssert .nilIface 77 123 true).run Tryz.prog w = .ok (.tuple #[.agg #[], .bool false]) w := by kernel_rfl

set_option maxHeartbeats 1000000 in
theorem modeRules_n (w : World) : Calls Tryz.prog 47 #[.nilIface] w fun r w' => ∃ s : Sl, r = .returned (.slice s.a s.n s.c) ∧ FR w' s [] ∧ Below w.heap.size w w' := by
  have t0 := ta_nt
  have t1 := ta_nc
  have HF : Hid (FR w ⟨none, 0, 0⟩ []) := ⟨rfl, .inl ⟨rfl, rfl, rfl⟩⟩
  go_enter Tryz.func47, Tryz.ntmps47
  go_wp2
  go_ret
  exact ⟨⟨none, 0, 0⟩, rfl, unhide HF, Below.refl _ _⟩

set_option maxHeartbeats 2000000 in
theorem modeOf_none (x : Cf) (w : World) (h1 : x.1 ≠ 1) (h2 : x.1 ≠ 2) :
    Calls Tryz.prog 48 #[.agg (cfvals x)] w fun e w' => e = .returned .nilIface ∧ Below w.heap.size w w' := by
  obtain ⟨m, p, e⟩ := x
  simp only at h1 h2
  have bb := hide (below_alloc w (.cells #[.int .i64 m, .int .i64 p, .int .i64 e] 35))
  have q1 : (m == 1) = false := by simp [h1]
  have q2 : (m == 2) = false := by simp [h2]
  unfold cfvals
  clear h1 h2
  go_enter Tryz.func48, Tryz.ntmps48
  go_wp2
  go_ret
  exact ⟨rfl, unhide bb⟩

end Go.Proofs.YtnmbdannipebnaaGreatDoor

/- What is proved here: the rules of CheckNext in their list: each answers its code where those ahead of it answer 0. -/
namespace Go.Proofs.YtnmbdannipebnaaGreatDoor
open Go.RowKit
set_option linter.unusedVariables false
set_option linter.unusedSimpArgs false
set_option maxRecDepth 100000

/-- The rules of a mode, by their numbers. -/
def mdFs (c : Cf) : List Nat := if c.1 = 1 then [92, 93, 94] else if c.1 = 2 then [94, 95] else []
def ckFs (c : Cf) : List Nat := [36, 37, 38, 39] ++ ([40, 41, 42, 43, 44, 45] ++ (mdFs c ++ [49]))
def ckKs (c : Cf) (x : Sn) (p n : Hd) : List Int := ckFaults c x p n ++ (ckOrder c x p n ++ (ckMode c x n ++ [unl (vtB c x n) 8]))

theorem snFlt_num {x : Sn} (h : snFlt x = 0) : 0 ≤ x.1 ∧ x.1 ≤ 1099511627776 := by
  unfold snFlt at h
  split at h
  · omega
  · rename_i h1
    have : within x.1 0 1099511627776 = true := by simpa using h1
    unfold within at this
    simp only [Bool.and_eq_true, decide_eq_true_eq] at this
    exact this

theorem cf_mode {c : Cf} (h : cfFlt c = 0) : c.1 = 1 ∨ c.1 = 2 := (cf_ok h).1

theorem ent_behindRule (V : Value) (W : World) : (callFunc 41 #[V]).run Tryz.prog W = .ok (.enter 41 #[V]) W := by kernel_rfl
theorem ent_commitsRule (V : Value) (W : World) : (callFunc 95 #[V]).run Tryz.prog W = .ok (.enter 95 #[V]) W := by kernel_rfl
theorem ent_configRule (V : Value) (W : World) : (callFunc 36 #[V]).run Tryz.prog W = .ok (.enter 36 #[V]) W := by kernel_rfl
theorem ent_hardRule (V : Value) (W : World) : (callFunc 94 #[V]).run Tryz.prog W = .ok (.enter 94 #[V]) W := by kernel_rfl
theorem ent_nextRule (V : Value) (W : World) : (callFunc 39 #[V]).run Tryz.prog W = .ok (.enter 39 #[V]) W := by kernel_rfl
theorem ent_numberRule (V : Value) (W : World) : (callFunc 42 #[V]).run Tryz.prog W = .ok (.enter 42 #[V]) W := by kernel_rfl
theorem ent_parentRule (V : Value) (W : World) : (callFunc 38 #[V]).run Tryz.prog W = .ok (.enter 38 #[V]) W := by kernel_rfl
theorem ent_recentRule (V : Value) (W : World) : (callFunc 93 #[V]).run Tryz.prog W = .ok (.enter 93 #[V]) W := by kernel_rfl
theorem ent_sealRule (V : Value) (W : World) : (callFunc 44 #[V]).run Tryz.prog W = .ok (.enter 44 #[V]) W := by kernel_rfl
theorem ent_signerRule (V : Value) (W : World) : (callFunc 45 #[V]).run Tryz.prog W = .ok (.enter 45 #[V]) W := by kernel_rfl
theorem ent_snapRule (V : Value) (W : World) : (callFunc 37 #[V]).run Tryz.prog W = .ok (.enter 37 #[V]) W := by kernel_rfl
theorem ent_stateRule (V : Value) (W : World) : (callFunc 40 #[V]).run Tryz.prog W = .ok (.enter 40 #[V]) W := by kernel_rfl
theorem ent_timeRule (V : Value) (W : World) : (callFunc 43 #[V]).run Tryz.prog W = .ok (.enter 43 #[V]) W := by kernel_rfl
theorem ent_uncommittedRule (V : Value) (W : World) : (callFunc 92 #[V]).run Tryz.prog W = .ok (.enter 92 #[V]) W := by kernel_rfl
theorem ent_votingRule (V : Value) (W : World) : (callFunc 49 #[V]).run Tryz.prog W = .ok (.enter 49 #[V]) W := by kernel_rfl

theorem ck_len (c : Cf) (x : Sn) (p n : Hd) : (ckKs c x p n).length = (ckFs c).length := by
  unfold ckKs ckFs ckFaults ckOrder ckMode mdFs
  by_cases h1 : c.1 = 1
  · simp [h1]
  · by_cases h2 : c.1 = 2
    · simp [h2]
    · simp [h1, h2]

theorem ck_len2 (c : Cf) : (ckFs c).length ≤ 100 ∧ (ckFs c).length = 11 + (mdFs c).length := by
  unfold ckFs mdFs
  by_cases h1 : c.1 = 1
  · simp [h1]
  · by_cases h2 : c.1 = 2
    · simp [h2]
    · simp [h1, h2]

theorem ck_ent (c : Cf) (f : Nat) (hf : f ∈ ckFs c) (V : Value) (W : World) : (callFunc f #[V]).run Tryz.prog W = .ok (.enter f #[V]) W := by
  have hm : f ∈ [41, 95, 36, 94, 39, 42, 38, 93, 44, 45, 37, 40, 43, 92, 49] := by
    unfold ckFs mdFs at hf
    by_cases h1 : c.1 = 1
    · rw [if_pos h1] at hf
      simp only [List.mem_append, List.mem_cons, List.not_mem_nil, or_false] at hf
      simp only [List.mem_cons, List.not_mem_nil, or_false]
      omega
    · by_cases h2 : c.1 = 2
      · rw [if_neg h1, if_pos h2] at hf
        simp only [List.mem_append, List.mem_cons, List.not_mem_nil, or_false] at hf
        simp only [List.mem_cons, List.not_mem_nil, or_false]
        omega
      · rw [if_neg h1, if_neg h2] at hf
        simp only [List.mem_append, List.mem_cons, List.not_mem_nil, or_false, false_or] at hf
        simp only [List.mem_cons, List.not_mem_nil, or_false]
        omega
  simp only [List.mem_cons, List.not_mem_nil, or_false] at hm
  rcases hm with rfl | rfl | rfl | rfl | rfl | rfl | rfl | rfl | rfl | rfl | rfl | rfl | rfl | rfl | rfl
  · exact ent_behindRule V W
  · exact ent_commitsRule V W
  · exact ent_configRule V W
  · exact ent_hardRule V W
  · exact ent_nextRule V W
  · exact ent_numberRule V W
  · exact ent_parentRule V W
  · exact ent_recentRule V W
  · exact ent_sealRule V W
  · exact ent_signerRule V W
  · exact ent_snapRule V W
  · exact ent_stateRule V W
  · exact ent_timeRule V W
  · exact ent_uncommittedRule V W
  · exact ent_votingRule V W

set_option maxHeartbeats 4000000 in
theorem ck_rules (c : Cf) (e : SnS) (x : Sn) (px : HS) (p : Hd) (nx : HS) (n : Hd) (w : World) (o : StOk w e x px p nx n) (i f : Nat) (k : Int) (hf : (ckFs c)[i]? = some f) (hk : (ckKs c x p n)[i]? = some k)
    (hz : ∀ j, j < i → (ckKs c x p n)[j]? = some 0) (W : World) (hb : Below w.heap.size w W) : Calls Tryz.prog f #[.agg (stvals c e x px p nx n)] W fun r w' => r = .returned (.int .i64 k) ∧ Below W.heap.size W w' := by
  have oW := o.below hb (Nat.le_refl _)
  have zz : ∀ (j : Nat) (q : Int), j < i → (ckKs c x p n)[j]? = some q → q = 0 := fun j q hj hq => Option.some.inj (hq.symm.trans (hz j hj))
  clear hz o
  by_cases h1 : c.1 = 1
  · unfold ckFs mdFs at hf
    unfold ckKs ckFaults ckOrder ckMode at hk zz
    rw [if_pos h1] at hf hk
    simp only [if_pos h1] at zz
    match i, hf, hk, zz with
    | 0, hf, hk, zz => cases hf; cases hk; exact configRule_any c e x px p nx n W oW
    | 1, hf, hk, zz => cases hf; cases hk; exact snapRule_any c e x px p nx n W oW
    | 2, hf, hk, zz => cases hf; cases hk; exact parentRule_any c e x px p nx n W oW
    | 3, hf, hk, zz => cases hf; cases hk; exact nextRule_any c e x px p nx n W oW
    | 4, hf, hk, zz => cases hf; cases hk; exact stateRule_any c e x px p nx n W oW
    | 5, hf, hk, zz => cases hf; cases hk; exact behindRule_any c e x px p nx n W oW (zz 2 _ (by omega) rfl)
    | 6, hf, hk, zz => cases hf; cases hk; exact numberRule_any c e x px p nx n W oW (snFlt_num (zz 1 _ (by omega) rfl))
    | 7, hf, hk, zz => cases hf; cases hk; exact timeRule_any c e x px p nx n W oW (good_of (zz 2 _ (by omega) rfl)).n2 (cf_ok (zz 0 _ (by omega) rfl)).2.1
    | 8, hf, hk, zz => cases hf; cases hk; exact sealRule_any c e x px p nx n W oW
    | 9, hf, hk, zz => cases hf; cases hk; exact signerRule_any c e x px p nx n W oW (zz 1 _ (by omega) rfl)
    | 10, hf, hk, zz => cases hf; cases hk; exact uncommittedRule_any c e x px p nx n W oW
    | 11, hf, hk, zz => cases hf; cases hk; exact recentRule_any c e x px p nx n W oW
    | 12, hf, hk, zz => cases hf; cases hk; exact hardRule_any c e x px p nx n W oW (cf_mode (zz 0 _ (by omega) rfl))
    | 13, hf, hk, zz => cases hf; cases hk; exact votingRule_any c e x px p nx n W oW (zz 0 _ (by omega) rfl) (zz 3 _ (by omega) rfl)
    | i + 14, hf, hk, zz => cases hf
  · by_cases h2 : c.1 = 2
    · unfold ckFs mdFs at hf
      unfold ckKs ckFaults ckOrder ckMode at hk zz
      rw [if_neg h1, if_pos h2] at hf hk
      simp only [if_neg h1, if_pos h2] at zz
      match i, hf, hk, zz with
      | 0, hf, hk, zz => cases hf; cases hk; exact configRule_any c e x px p nx n W oW
      | 1, hf, hk, zz => cases hf; cases hk; exact snapRule_any c e x px p nx n W oW
      | 2, hf, hk, zz => cases hf; cases hk; exact parentRule_any c e x px p nx n W oW
      | 3, hf, hk, zz => cases hf; cases hk; exact nextRule_any c e x px p nx n W oW
      | 4, hf, hk, zz => cases hf; cases hk; exact stateRule_any c e x px p nx n W oW
      | 5, hf, hk, zz => cases hf; cases hk; exact behindRule_any c e x px p nx n W oW (zz 2 _ (by omega) rfl)
      | 6, hf, hk, zz => cases hf; cases hk; exact numberRule_any c e x px p nx n W oW (snFlt_num (zz 1 _ (by omega) rfl))
      | 7, hf, hk, zz => cases hf; cases hk; exact timeRule_any c e x px p nx n W oW (good_of (zz 2 _ (by omega) rfl)).n2 (cf_ok (zz 0 _ (by omega) rfl)).2.1
      | 8, hf, hk, zz => cases hf; cases hk; exact sealRule_any c e x px p nx n W oW
      | 9, hf, hk, zz => cases hf; cases hk; exact signerRule_any c e x px p nx n W oW (zz 1 _ (by omega) rfl)
      | 10, hf, hk, zz => cases hf; cases hk; exact hardRule_any c e x px p nx n W oW (cf_mode (zz 0 _ (by omega) rfl))
      | 11, hf, hk, zz => cases hf; cases hk; exact commitsRule_any c e x px p nx n W oW
      | 12, hf, hk, zz => cases hf; cases hk; exact votingRule_any c e x px p nx n W oW (zz 0 _ (by omega) rfl) (zz 3 _ (by omega) rfl)
      | i + 13, hf, hk, zz => cases hf
    · have hc : ¬ cfFlt c = 0 := fun h => by rcases cf_mode h with q | q <;> omega
      match i, hf, hk, zz with
      | 0, hf, hk, zz => cases hf; cases hk; exact configRule_any c e x px p nx n W oW
      | i + 1, hf, hk, zz => exact absurd (zz 0 (cfFlt c) (by omega) rfl) hc

end Go.Proofs.YtnmbdannipebnaaGreatDoor

/- What is proved here: what the program's CheckNext answers: the first code of the rules in their order. -/
namespace Go.Proofs.YtnmbdannipebnaaGreatDoor
open Go.RowKit
set_option linter.unusedVariables false
set_option linter.unusedSimpArgs false
set_option maxRecDepth 100000

/-- What modeOf answers. -/
def mdV (c : Cf) : Value := if c.1 = 1 then .iface 122 (.agg #[]) else if c.1 = 2 then .iface 123 (.agg #[]) else .nilIface

theorem modeOf_all (c : Cf) (w : World) : Calls Tryz.prog 48 #[.agg (cfvals c)] w fun e w' => e = .returned (mdV c) ∧ Below w.heap.size w w' := by
  by_cases h1 : c.1 = 1
  · refine (modeOf_any c w (.inl h1)).mono ?_
    rintro e w' ⟨rfl, hb⟩
    exact ⟨by rw [mdV, if_pos h1, if_neg (by omega)], hb⟩
  · by_cases h2 : c.1 = 2
    · refine (modeOf_any c w (.inr h2)).mono ?_
      rintro e w' ⟨rfl, hb⟩
      exact ⟨by rw [mdV, if_neg h1, if_pos h2, if_pos h2], hb⟩
    · refine (modeOf_none c w h1 h2).mono ?_
      rintro e w' ⟨rfl, hb⟩
      exact ⟨by rw [mdV, if_neg h1, if_neg h2], hb⟩

theorem modeRules_all (c : Cf) (w : World) : Calls Tryz.prog 47 #[mdV c] w fun r w' => ∃ s : Sl, r = .returned (.slice s.a s.n s.c) ∧ FR w' s (mdFs c) ∧ Below w.heap.size w w' := by
  by_cases h1 : c.1 = 1
  · rw [mdV, mdFs, if_pos h1, if_pos h1]; exact modeRules_t w
  · by_cases h2 : c.1 = 2
    · rw [mdV, mdFs, if_neg h1, if_neg h1, if_pos h2, if_pos h2]; exact modeRules_c w
    · rw [mdV, mdFs, if_neg h1, if_neg h1, if_neg h2, if_neg h2]; exact modeRules_n w

set_option maxHeartbeats 8000000 in
theorem implCheck_any (c : Cf) (e : SnS) (x : Sn) (px : HS) (p : Hd) (nx : HS) (n : Hd) (w : World) (o : StOk w e x px p nx n) :
    Calls Tryz.prog 11 #[.agg (cfvals c), .agg (snvals e x), .agg (hvals px p), .agg (hvals nx n)] w fun r w' => r = .returned (.int .i64 (ckCode c x p n)) ∧ Below w.heap.size w w' := by
  have k0 := (((SBlk.new w (cfvals c) 35).next (.cells (snvals e x) 40)).next (.cells (hvals px p) 42)).next (.cells (hvals nx n) 42)
  have k1 := ((SBlk.new (w.alloc (.cells (cfvals c) 35)) (snvals e x) 40).next (.cells (hvals px p) 42)).next (.cells (hvals nx n) 42)
  have k2 := (SBlk.new ((w.alloc (.cells (cfvals c) 35)).alloc (.cells (snvals e x) 40)) (hvals px p) 42).next (.cells (hvals nx n) 42)
  have k3 := SBlk.new (((w.alloc (.cells (cfvals c) 35)).alloc (.cells (snvals e x) 40)).alloc (.cells (hvals px p) 42)) (hvals nx n) 42
  have bb : Below w.heap.size w ((((w.alloc (.cells (cfvals c) 35)).alloc (.cells (snvals e x) 40)).alloc (.cells (hvals px p) 42)).alloc (.cells (hvals nx n) 42)) := bAl (bAl (bAl (bAl (Below.refl _ _) _) _) _) _
  rw [show (w.alloc (.cells (cfvals c) 35)).heap.size = w.heap.size + 1 by simp] at k1
  rw [show ((w.alloc (.cells (cfvals c) 35)).alloc (.cells (snvals e x) 40)).heap.size = w.heap.size + 1 + 1 by simp] at k2
  rw [show (((w.alloc (.cells (cfvals c) 35)).alloc (.cells (snvals e x) 40)).alloc (.cells (hvals px p) 42)).heap.size = w.heap.size + 1 + 1 + 1 by simp] at k3
  have zb : ((((w.alloc (.cells (cfvals c) 35)).alloc (.cells (snvals e x) 40)).alloc (.cells (hvals px p) 42)).alloc (.cells (hvals nx n) 42)).heap.size = w.heap.size + 1 + 1 + 1 + 1 := by simp
  obtain ⟨W0, e0⟩ : ∃ W, (((w.alloc (.cells (cfvals c) 35)).alloc (.cells (snvals e x) 40)).alloc (.cells (hvals px p) 42)).alloc (.cells (hvals nx n) 42) = W := ⟨_, rfl⟩
  rw [e0] at k0 k1 k2 k3 bb zb
  have HST := hide (fun (W : World) (hb : Below W0.heap.size W0 W) => o.below (bb.trans (hb.mono bb.size)) (Nat.le_refl _))
  have HBB := hide bb
  have E0 := hide e0
  have HK := hide (fun (W : World) (hb : Below W0.heap.size W0 W) => And.intro (k0.below hb k0.lt) (And.intro (k1.below hb k1.lt) (And.intro (k2.below hb k2.lt) (k3.below hb k3.lt))))
  have ka := SBlk.new W0 #[.func (.func 36) #[] #[], .func (.func 37) #[] #[], .func (.func 38) #[] #[], .func (.func 39) #[] #[]] 75
  have kc := SBlk.new (W0.alloc (.cells #[.func (.func 36) #[] #[], .func (.func 37) #[] #[], .func (.func 38) #[] #[], .func (.func 39) #[] #[]] 75)) #[.func (.func 40) #[] #[], .func (.func 41) #[] #[], .func (.func 42) #[] #[], .func (.func 43) #[] #[], .func (.func 44) #[] #[], .func (.func 45) #[] #[]] 75
  have ka2 := ka.next (.cells #[.func (.func 40) #[] #[], .func (.func 41) #[] #[], .func (.func 42) #[] #[], .func (.func 43) #[] #[], .func (.func 44) #[] #[], .func (.func 45) #[] #[]] 75)
  have bc : Below W0.heap.size W0 ((W0.alloc (.cells #[.func (.func 36) #[] #[], .func (.func 37) #[] #[], .func (.func 38) #[] #[], .func (.func 39) #[] #[]] 75)).alloc (.cells #[.func (.func 40) #[] #[], .func (.func 41) #[] #[], .func (.func 42) #[] #[], .func (.func 43) #[] #[], .func (.func 44) #[] #[], .func (.func 45) #[] #[]] 75)) := bAl (bAl (Below.refl _ _) _) _
  rw [show (W0.alloc (.cells #[.func (.func 36) #[] #[], .func (.func 37) #[] #[], .func (.func 38) #[] #[], .func (.func 39) #[] #[]] 75)).heap.size = W0.heap.size + 1 by simp] at kc
  obtain ⟨W1, e1⟩ : ∃ W, (W0.alloc (.cells #[.func (.func 36) #[] #[], .func (.func 37) #[] #[], .func (.func 38) #[] #[], .func (.func 39) #[] #[]] 75)).alloc (.cells #[.func (.func 40) #[] #[], .func (.func 41) #[] #[], .func (.func 42) #[] #[], .func (.func 43) #[] #[], .func (.func 44) #[] #[], .func (.func 45) #[] #[]] 75) = W := ⟨_, rfl⟩
  rw [e1] at kc ka2 bc
  have E1 := hide e1
  have HBC := hide bc
  have HFA : Hid (FR W1 ⟨some ⟨W0.heap.size, 0, none⟩, 4, 4⟩ [36, 37, 38, 39]) := ⟨rfl, .inr ⟨W0.heap.size, rfl, fun j f hj => by
    rw [ka2.cell j]
    match j, hj with
    | 0, hj => cases hj; rfl
    | 1, hj => cases hj; rfl
    | 2, hj => cases hj; rfl
    | 3, hj => cases hj; rfl
    | j + 4, hj => cases hj⟩⟩
  have HFO : Hid (FR W1 ⟨some ⟨W0.heap.size + 1, 0, none⟩, 6, 6⟩ [40, 41, 42, 43, 44, 45]) := ⟨rfl, .inr ⟨W0.heap.size + 1, rfl, fun j f hj => by
    rw [kc.cell j]
    match j, hj with
    | 0, hj => cases hj; rfl
    | 1, hj => cases hj; rfl
    | 2, hj => cases hj; rfl
    | 3, hj => cases hj; rfl
    | 4, hj => cases hj; rfl
    | 5, hj => cases hj; rfl
    | j + 6, hj => cases hj⟩⟩
  have DM := hide (fun (W : World) => modeOf_all c W)
  have DR := hide (fun (W : World) => modeRules_all c W)
  clear e0 e1 k0 k1 k2 k3 bb ka kc ka2 bc
  have HCK : Hid (ckCode c x p n = ckCode c x p n) := rfl
  unfold cfvals at E0 DM ⊢
  unfold snvals hvals at E0 ⊢
  generalize mdV c = MV at DM DR
  go_enter Tryz.func11, Tryz.ntmps11
  go_upto_region 1 with fail
  rw [unhide E0]
  clear E0
  go_upto_region 3 with fail
  rw [unhide E1]
  clear E1
  obtain ⟨kk0, _⟩ := (unhide HK) W1 (unhide HBC)
  have c0 : W1.cell? ⟨w.heap.size, 0, none⟩ = some (.int .i64 c.1) := kk0.cell 0
  have c1 : W1.cell? ⟨w.heap.size, 1, none⟩ = some (.int .i64 c.2.1) := kk0.cell 1
  have c2 : W1.cell? ⟨w.heap.size, 2, none⟩ = some (.int .i64 c.2.2) := kk0.cell 2
  rw [zb] at HFA HFO
  clear kk0
  go_wp2_with fail
  refine ((unhide DM) W1).mono ?_
  rintro r w2 ⟨rfl, b2⟩
  clear c0 c1 c2
  go_wp2_with fail
  refine ((unhide DR) w2).mono ?_
  rintro r w3 ⟨s3, rfl, f3, b3⟩
  have K13 := bStep b2 b3
  have A3 := (unhide HFA).below K13 (Nat.le_refl _)
  have O3 := (unhide HFO).below K13 (Nat.le_refl _)
  have HF3 := hide f3
  have HA3 := hide A3
  have HO3 := hide O3
  have HK13 := hide K13
  clear b2 b3 f3 A3 O3 K13 HFA HFO
  go_wp2_with fail
  have kv := SBlk.new w3 #[.func (.func 49) #[] #[]] 75
  have kw := SBlk.new (w3.alloc (.cells #[.func (.func 49) #[] #[]] 75)) #[.slice (some ⟨w.heap.size + 1 + 1 + 1 + 1, 0, none⟩) 4 4, .slice (some ⟨w.heap.size + 1 + 1 + 1 + 1 + 1, 0, none⟩) 6 6, .slice s3.a s3.n s3.c, .slice (some ⟨w3.heap.size, 0, none⟩) 1 1] 73
  rw [show (w3.alloc (.cells #[.func (.func 49) #[] #[]] 75)).heap.size = w3.heap.size + 1 by simp] at kw
  have kv2 := kv.next (.cells #[.slice (some ⟨w.heap.size + 1 + 1 + 1 + 1, 0, none⟩) 4 4, .slice (some ⟨w.heap.size + 1 + 1 + 1 + 1 + 1, 0, none⟩) 6 6, .slice s3.a s3.n s3.c, .slice (some ⟨w3.heap.size, 0, none⟩) 1 1] 73)
  have b34 := bAl (bAl (Below.refl w3.heap.size w3) (.cells #[.func (.func 49) #[] #[]] 75)) (.cells #[.slice (some ⟨w.heap.size + 1 + 1 + 1 + 1, 0, none⟩) 4 4, .slice (some ⟨w.heap.size + 1 + 1 + 1 + 1 + 1, 0, none⟩) 6 6, .slice s3.a s3.n s3.c, .slice (some ⟨w3.heap.size, 0, none⟩) 1 1] 73)
  obtain ⟨W4, e4⟩ : ∃ W, (w3.alloc (.cells #[.func (.func 49) #[] #[]] 75)).alloc (.cells #[.slice (some ⟨w.heap.size + 1 + 1 + 1 + 1, 0, none⟩) 4 4, .slice (some ⟨w.heap.size + 1 + 1 + 1 + 1 + 1, 0, none⟩) 6 6, .slice s3.a s3.n s3.c, .slice (some ⟨w3.heap.size, 0, none⟩) 1 1] 73) = W := ⟨_, rfl⟩
  rw [e4] at kw kv2 b34
  rw [e4]
  have hfl : ([[36, 37, 38, 39], [40, 41, 42, 43, 44, 45], mdFs c, [49]] : List (List Nat)).flatten = [36, 37, 38, 39] ++ ([40, 41, 42, 43, 44, 45] ++ (mdFs c ++ [49])) := by simp
  have hml : (mdFs c).length ≤ 3 := by unfold mdFs; split; (· simp); split <;> simp
  have hfn : ([[36, 37, 38, 39], [40, 41, 42, 43, 44, 45], mdFs c, [49]] : List (List Nat)).flatten.length = 11 + (mdFs c).length := by rw [hfl]; simp; omega
  have DC := concatR_any (w3.heap.size + 1) 4 4 [⟨some ⟨w.heap.size + 1 + 1 + 1 + 1, 0, none⟩, 4, 4⟩, ⟨some ⟨w.heap.size + 1 + 1 + 1 + 1 + 1, 0, none⟩, 6, 6⟩, s3, ⟨some ⟨w3.heap.size, 0, none⟩, 1, 1⟩] [[36, 37, 38, 39], [40, 41, 42, 43, 44, 45], mdFs c, [49]] W4 rfl rfl (by omega)
    (fun i q hq => by
      rw [kw.cell i]
      match i, hq with
      | 0, hq => cases hq; rfl
      | 1, hq => cases hq; rfl
      | 2, hq => cases hq; rfl
      | 3, hq => cases hq; rfl
      | i + 4, hq => cases hq)
    (fun i q z hq hz => by
      match i, hq, hz with
      | 0, hq, hz => cases hq; cases hz; exact (unhide HA3).below b34 (Nat.le_refl _)
      | 1, hq, hz => cases hq; cases hz; exact (unhide HO3).below b34 (Nat.le_refl _)
      | 2, hq, hz => cases hq; cases hz; exact (unhide HF3).below b34 (Nat.le_refl _)
      | 3, hq, hz =>
        cases hq; cases hz
        exact ⟨rfl, .inr ⟨w3.heap.size, rfl, fun j f hj => by
          rw [kv2.cell j]
          match j, hj with
          | 0, hj => cases hj; rfl
          | j + 1, hj => cases hj⟩⟩
      | i + 4, hq, hz => cases hq)
    (by omega) (by omega)
  rw [hfn, hfl] at DC
  have HML := hide hml
  have HK14 := hide (bStep (unhide HK13) b34)
  clear e4 kv kw kv2 b34 hfl hml hfn HA3 HO3 HF3 HK13
  generalize hFS : [36, 37, 38, 39] ++ ([40, 41, 42, 43, 44, 45] ++ (mdFs c ++ [49])) = FS at DC
  have HFS := hide hFS
  obtain ⟨L, hL⟩ : ∃ L, L = 11 + (mdFs c).length := ⟨_, rfl⟩
  rw [← hL] at DC
  have HLL := hide hL
  clear hFS hL
  refine DC.mono ?_
  rintro r w5 ⟨a5, c5, rfl, o5, b5⟩
  clear DC
  have hL0 : 0 < L := by have := unhide HLL; omega
  obtain ⟨g5, cap5, hv5⟩ := own_some o5 hL0
  simp only [Value.slice.injEq] at hv5
  obtain ⟨rfl, _, _⟩ := hv5
  have HO5 := hide o5
  have K5 := bStep (bStep (unhide HBC) (unhide HK14)) b5
  have HK5 := hide K5
  have kk := (unhide HK) w5 K5
  have c0 : w5.cell? ⟨w.heap.size, 0, none⟩ = some (.int .i64 c.1) := kk.1.cell 0
  have c1 : w5.cell? ⟨w.heap.size, 1, none⟩ = some (.int .i64 c.2.1) := kk.1.cell 1
  have c2 : w5.cell? ⟨w.heap.size, 2, none⟩ = some (.int .i64 c.2.2) := kk.1.cell 2
  have s0 : w5.cell? ⟨w.heap.size + 1, 0, none⟩ = some (.int .i64 x.1) := kk.2.1.cell 0
  have s1 : w5.cell? ⟨w.heap.size + 1, 1, none⟩ = some (.slice e.2.1.a e.2.1.n e.2.1.c) := kk.2.1.cell 1
  have s2 : w5.cell? ⟨w.heap.size + 1, 2, none⟩ = some (.slice e.2.2.1.a e.2.2.1.n e.2.2.1.c) := kk.2.1.cell 2
  have s3 : w5.cell? ⟨w.heap.size + 1, 3, none⟩ = some (.slice e.2.2.2.a e.2.2.2.n e.2.2.2.c) := kk.2.1.cell 3
  have p0 : w5.cell? ⟨w.heap.size + 1 + 1, 0, none⟩ = some (.slice px.p.a px.p.n px.p.c) := kk.2.2.1.cell 0
  have p1 : w5.cell? ⟨w.heap.size + 1 + 1, 1, none⟩ = some (.int .i64 p.n1) := kk.2.2.1.cell 1
  have p2 : w5.cell? ⟨w.heap.size + 1 + 1, 2, none⟩ = some (.int .i64 p.n2) := kk.2.2.1.cell 2
  have p3 : w5.cell? ⟨w.heap.size + 1 + 1, 3, none⟩ = some (.int .i64 p.n3) := kk.2.2.1.cell 3
  have p4 : w5.cell? ⟨w.heap.size + 1 + 1, 4, none⟩ = some (.slice px.t.a px.t.n px.t.c) := kk.2.2.1.cell 4
  have p5 : w5.cell? ⟨w.heap.size + 1 + 1, 5, none⟩ = some (.int .i64 p.n5) := kk.2.2.1.cell 5
  have p6 : w5.cell? ⟨w.heap.size + 1 + 1, 6, none⟩ = some (.slice px.s.a px.s.n px.s.c) := kk.2.2.1.cell 6
  have p7 : w5.cell? ⟨w.heap.size + 1 + 1, 7, none⟩ = some (.slice px.r.a px.r.n px.r.c) := kk.2.2.1.cell 7
  have p8 : w5.cell? ⟨w.heap.size + 1 + 1, 8, none⟩ = some (.slice px.g.a px.g.n px.g.c) := kk.2.2.1.cell 8
  have p9 : w5.cell? ⟨w.heap.size + 1 + 1, 9, none⟩ = some (.slice px.e.a px.e.n px.e.c) := kk.2.2.1.cell 9
  have p10 : w5.cell? ⟨w.heap.size + 1 + 1, 10, none⟩ = some (.slice px.k.a px.k.n px.k.c) := kk.2.2.1.cell 10
  have n0 : w5.cell? ⟨w.heap.size + 1 + 1 + 1, 0, none⟩ = some (.slice nx.p.a nx.p.n nx.p.c) := kk.2.2.2.cell 0
  have n1 : w5.cell? ⟨w.heap.size + 1 + 1 + 1, 1, none⟩ = some (.int .i64 n.n1) := kk.2.2.2.cell 1
  have n2 : w5.cell? ⟨w.heap.size + 1 + 1 + 1, 2, none⟩ = some (.int .i64 n.n2) := kk.2.2.2.cell 2
  have n3 : w5.cell? ⟨w.heap.size + 1 + 1 + 1, 3, none⟩ = some (.int .i64 n.n3) := kk.2.2.2.cell 3
  have n4 : w5.cell? ⟨w.heap.size + 1 + 1 + 1, 4, none⟩ = some (.slice nx.t.a nx.t.n nx.t.c) := kk.2.2.2.cell 4
  have n5 : w5.cell? ⟨w.heap.size + 1 + 1 + 1, 5, none⟩ = some (.int .i64 n.n5) := kk.2.2.2.cell 5
  have n6 : w5.cell? ⟨w.heap.size + 1 + 1 + 1, 6, none⟩ = some (.slice nx.s.a nx.s.n nx.s.c) := kk.2.2.2.cell 6
  have n7 : w5.cell? ⟨w.heap.size + 1 + 1 + 1, 7, none⟩ = some (.slice nx.r.a nx.r.n nx.r.c) := kk.2.2.2.cell 7
  have n8 : w5.cell? ⟨w.heap.size + 1 + 1 + 1, 8, none⟩ = some (.slice nx.g.a nx.g.n nx.g.c) := kk.2.2.2.cell 8
  have n9 : w5.cell? ⟨w.heap.size + 1 + 1 + 1, 9, none⟩ = some (.slice nx.e.a nx.e.n nx.e.c) := kk.2.2.2.cell 9
  have n10 : w5.cell? ⟨w.heap.size + 1 + 1 + 1, 10, none⟩ = some (.slice nx.k.a nx.k.n nx.k.c) := kk.2.2.2.cell 10
  clear kk K5 b5 o5
  have HST5 := hide ((unhide HST) w5 (unhide HK5))
  have hFSL : L = FS.length := by have h1 := unhide HFS; have h2 := (ck_len2 c).2; have h3 := unhide HLL; have h4 : ckFs c = FS := h1; rw [h4] at h2; omega
  have hFE : FS = ckFs c := (unhide HFS).symm
  have DF := firstBroken_any c e x px p nx n (ckFs c) (ckKs c x p n) g5 0 cap5 w5 (fun i f hi => by
      have ho := unhide HO5
      rw [Nat.zero_add, ho.cellAt i (by rw [hFSL, hFE, Nat.mul_one]; exact (List.getElem?_eq_some_iff.1 hi).1), hFE]
      unfold fvs
      rw [List.getElem?_map, hi]
      rfl) ((unhide HO5).lt g5 rfl).2 (ck_len c x p n) (ck_len2 c).1 (ck_ent c) (fun i f k hf hk hz W hW => ck_rules c e x px p nx n w5 (unhide HST5) i f k hf hk hz W hW)
  rw [← hFE, ← hFSL] at DF
  have HDF := hide DF
  clear DF hFSL hFE
  unfold stvals at HDF
  go_wp2_with fail
  refine (unhide HDF).mono ?_
  rintro r w6 ⟨rfl, b6⟩
  go_wp2_with fail
  go_ret
  exact ⟨rfl, (unhide HBB).trans ((bStep (unhide HK5) b6).mono (unhide HBB).size)⟩

end Go.Proofs.YtnmbdannipebnaaGreatDoor
