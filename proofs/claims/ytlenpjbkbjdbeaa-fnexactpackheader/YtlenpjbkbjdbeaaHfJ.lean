/- What is proved here: what the program's HeaderFault answers: the fault of a header. -/
import Derived.Test.YtlenpjbkbjdbeaaHfI
import Derived.Test.YtlenpjbkbjdbeaaBlkO
namespace Go.Proofs.Ytlenpjbkbjdbeaa
open Go.RowKit
set_option linter.unusedVariables false

set_option maxRecDepth 100000 in
set_option maxHeartbeats 8000000 in
theorem hasLengths_any (x : HS) (h : Hd) (w : World) (o : HOk w x h) :
    Calls Try.prog 22 #[.agg (hvals x h)] w fun e w' => e = .returned (.bool (!hdLen h)) ∧ Below w.heap.size w w' := by
  have k0 := SBlk.new w (hvals x h) 47
  have hb := below_alloc w (.cells (hvals x h) 47)
  obtain ⟨W0, e0⟩ : ∃ W0, w.alloc (.cells (hvals x h) 47) = W0 := ⟨_, rfl⟩
  rw [e0] at k0 hb
  obtain ⟨x0, x1, x2, x3, x4, x5, x6, x7, x8, x9, x10⟩ := hcells k0
  have HC := hide (fun (W : World) (hb' : Below W0.heap.size W0 W) => hcells (k0.below hb' k0.lt))
  have HB := hide hb
  obtain ⟨b1, e1⟩ : ∃ b, (((x.p.n : Nat) : Int) != 32) = b := ⟨_, rfl⟩
  obtain ⟨b2, e2⟩ : ∃ b, (((x.t.n : Nat) : Int) != 0) = b := ⟨_, rfl⟩
  obtain ⟨b3, e3⟩ : ∃ b, (((x.t.n : Nat) : Int) != 4) = b := ⟨_, rfl⟩
  obtain ⟨b4, e4⟩ : ∃ b, (((x.r.n : Nat) : Int) != 32) = b := ⟨_, rfl⟩
  obtain ⟨b5, e5⟩ : ∃ b, (((x.g.n : Nat) : Int) != 4) = b := ⟨_, rfl⟩
  obtain ⟨b6, e6⟩ : ∃ b, (((x.e.n : Nat) : Int) != 0) = b := ⟨_, rfl⟩
  obtain ⟨b7, e7⟩ : ∃ b, (((x.e.n : Nat) : Int) != 4) = b := ⟨_, rfl⟩
  have HL : Hid (hdLen h = (b1 || (b2 && b3) || b4 || b5 || (b6 && b7))) := by
    show _ = _
    unfold hdLen
    rw [o.p.1, o.t.1, o.r.1, o.g.1, o.e.1, e1, e2, e3, e4, e5, e6, e7]
  have f1 : (((x.p.n : Nat) : Int) == 32) = !b1 := by rw [← e1]; simp [bne]
  have f4 : (((x.r.n : Nat) : Int) == 32) = !b4 := by rw [← e4]; simp [bne]
  have f5 : (((x.g.n : Nat) : Int) == 4) = !b5 := by rw [← e5]; simp [bne]
  have f6 : (((x.e.n : Nat) : Int) == 0) = !b6 := by rw [← e6]; simp [bne]
  have f7 : (((x.e.n : Nat) : Int) == 4) = !b7 := by rw [← e7]; simp [bne]
  have D1 := hide (fun W => isHash_any x.p.a x.p.n x.p.c W)
  have D2 := hide (fun W => hasAim_to x h b2 b3 W e2 e3)
  have D4 := hide (fun W => isHash_any x.r.a x.r.n x.r.c W)
  have D5 := hide (fun W => isAddr_any x.g.a x.g.n x.g.c W)
  simp only [f1] at D1
  simp only [f4] at D4
  simp only [f5] at D5
  clear o e1 e2 e3 e4 e5 e6 e7 f1 f4 f5 k0 hb
  generalize hdLen h = L at HL
  unfold hvals at e0 ⊢
  go_enter Try.func22, Try.ntmps22
  go_upto_region 1 with (rw [e0])
  try rw [e0]
  clear e0
  go_cut [3] (fun s wx => s = .bool (!(b6 && b7)) ∧ wx = W0)
  case first =>
    cases b6
    · have f6' : (((x.e.n : Nat) : Int) == 0) = true := f6
      clear f6 f7
      go_wp2_with fail
      go_meet
      exact ⟨rfl, rfl⟩
    · have f6' : (((x.e.n : Nat) : Int) == 0) = false := f6
      clear f6
      go_wp2_with fail
      go_meet
      exact ⟨by simp, rfl⟩
  case rest =>
    obtain ⟨rfl, hwc⟩ := hcut
    rw [hwc]
    clear hwc f6 f7
    generalize hb67 : (b6 && b7) = bs
    rw [hb67] at HL
    clear hb67
    generalize hb23 : (b2 && b3) = bt at D2
    rw [hb23] at HL
    clear hb23
    go_wp2_with fail
    refine ((unhide D1) _).mono ?_
    rintro e w1 ⟨rfl, rfl⟩
    cases b1
    case true =>
      go_wp2_with fail
      go_ret
      exact ⟨ret_bool (by rw [unhide HL]; simp), unhide HB⟩
    go_wp2_with fail
    refine ((unhide D2) _).mono ?_
    rintro e w1 ⟨rfl, b1⟩
    have HB1 := hide ((unhide HB).trans (b1.mono (unhide HB).size))
    cases bt
    case true =>
      go_wp2_with fail
      go_ret
      exact ⟨ret_bool (by rw [unhide HL]; simp), unhide HB1⟩
    obtain ⟨y0, y1, y2, y3, y4, y5, y6, y7, y8, y9, y10⟩ := (unhide HC) _ b1
    clear b1
    go_wp2_with fail
    refine ((unhide D4) _).mono ?_
    rintro e w2 ⟨rfl, rfl⟩
    cases b4
    case true =>
      go_wp2_with fail
      go_ret
      exact ⟨ret_bool (by rw [unhide HL]; simp), unhide HB1⟩
    go_wp2_with fail
    refine ((unhide D5) _).mono ?_
    rintro e w2 ⟨rfl, rfl⟩
    cases b5
    case true =>
      go_wp2_with fail
      go_ret
      exact ⟨ret_bool (by rw [unhide HL]; simp), unhide HB1⟩
    go_wp2_with fail
    go_ret
    exact ⟨ret_bool (by rw [unhide HL]; simp), unhide HB1⟩

set_option maxRecDepth 100000 in
set_option maxHeartbeats 8000000 in
theorem hasNumbers_any (x : HS) (h : Hd) (w : World) :
    Calls Try.prog 23 #[.agg (hvals x h)] w fun e w' => e = .returned (.bool (hdNum h)) ∧ Below w.heap.size w w' := by
  have k0 := SBlk.new w (hvals x h) 47
  have hb := below_alloc w (.cells (hvals x h) 47)
  obtain ⟨W0, e0⟩ : ∃ W0, w.alloc (.cells (hvals x h) 47) = W0 := ⟨_, rfl⟩
  rw [e0] at k0 hb
  obtain ⟨x0, x1, x2, x3, x4, x5, x6, x7, x8, x9, x10⟩ := hcells k0
  have HB := hide hb
  obtain ⟨c1, f1⟩ : ∃ c, within h.n1 0 1099511627776 = c := ⟨_, rfl⟩
  obtain ⟨c2, f2⟩ : ∃ c, within h.n2 0 1099511627776 = c := ⟨_, rfl⟩
  obtain ⟨c3, f3⟩ : ∃ c, within h.n3 0 9 = c := ⟨_, rfl⟩
  obtain ⟨c5, f5⟩ : ∃ c, within h.n5 0 2 = c := ⟨_, rfl⟩
  have HN : Hid (hdNum h = (c1 && c2 && c3 && c5)) := by
    show _ = _
    unfold hdNum
    rw [f1, f2, f3, f5]
  have D1 := hide (fun W => isNumber_to h.n1 c1 W f1)
  have D2 := hide (fun W => isNumber_to h.n2 c2 W f2)
  have D3 := hide (fun W => isWithin_to h.n3 0 9 c3 W f3)
  have D5 := hide (fun W => hasNonce_to x h c5 W f5)
  clear f1 f2 f3 f5 k0 hb
  generalize hdNum h = L at HN
  unfold hvals at e0 ⊢
  go_enter Try.func23, Try.ntmps23
  go_upto_region 1 with (rw [e0])
  try rw [e0]
  clear e0
  go_wp2_with fail
  refine ((unhide D1) _).mono ?_
  rintro e w1 ⟨rfl, rfl⟩
  cases c1
  · go_wp2_with fail
    go_ret
    exact ⟨ret_bool (by rw [unhide HN]; simp), unhide HB⟩
  go_wp2_with fail
  refine ((unhide D2) _).mono ?_
  rintro e w1 ⟨rfl, rfl⟩
  cases c2
  · go_wp2_with fail
    go_ret
    exact ⟨ret_bool (by rw [unhide HN]; simp), unhide HB⟩
  go_wp2_with fail
  refine ((unhide D3) _).mono ?_
  rintro e w1 ⟨rfl, rfl⟩
  cases c3
  · go_wp2_with fail
    go_ret
    exact ⟨ret_bool (by rw [unhide HN]; simp), unhide HB⟩
  go_wp2_with fail
  refine ((unhide D5) _).mono ?_
  rintro e w1 ⟨rfl, b1⟩
  go_wp2_with fail
  go_ret
  exact ⟨ret_bool (by rw [unhide HN]; simp), (unhide HB).trans (b1.mono (unhide HB).size)⟩

set_option maxRecDepth 100000 in
set_option maxHeartbeats 8000000 in
theorem implHeaderFault_any (x : HS) (h : Hd) (w : World) (o : HOk w x h) (m : HSm h) :
    Calls Try.prog 8 #[.agg (hvals x h)] w fun e w' => e = .returned (.int .i64 (hdFlt h)) ∧ Below w.heap.size w w' := by
  have k0 := SBlk.new w (hvals x h) 28
  have hb := below_alloc w (.cells (hvals x h) 28)
  obtain ⟨W0, e0⟩ : ∃ W0, w.alloc (.cells (hvals x h) 28) = W0 := ⟨_, rfl⟩
  rw [e0] at k0 hb
  obtain ⟨x0, x1, x2, x3, x4, x5, x6, x7, x8, x9, x10⟩ := hcells k0
  have HO := hide (fun (W : World) (hb : Below w.heap.size w W) => o.below hb (Nat.le_refl _))
  have hsl : x.s.n ≤ 1048576 := by have := o.s.1; have := m.s; omega
  have hkl : x.k.n ≤ 1048576 := by have := o.k.1; have := m.k; omega
  have HE : Hid (hdFlt h = if hdLen h = true then 1 else if hdNum h = false then 3 else if sgFlt h.s = 0 then coFlt h.k else sgFlt h.s) := rfl
  have D1 := hide (fun (W : World) (hb : Below w.heap.size w W) => hasLengths_any x h W ((unhide HO) W hb))
  have D2 := hide (fun (W : World) => hasNumbers_any x h W)
  have D3 := hide (fun (W : World) (hb : Below w.heap.size w W) => votesFault_any x h W ((unhide HO) W hb).s hsl)
  have D4 := hide (fun (W : World) (hb : Below w.heap.size w W) => commitsFault_any x h W ((unhide HO) W hb).k hkl)
  have D0 := hide (blockOf_any x h W0)
  have HB := hide hb
  clear o m hsl hkl HO k0 hb
  generalize hdLen h = L at HE D1
  generalize hdNum h = Nm at HE D2
  generalize sgFlt h.s = q at HE D3
  generalize coFlt h.k = cf at HE D4
  unfold hvals at e0 D0 D1 D2 D4 ⊢
  go_enter Try.func8, Try.ntmps8
  go_upto_region 1 with (rw [e0])
  try rw [e0]
  clear e0
  go_wp2_with fail
  refine (unhide D0).mono ?_
  rintro e w1 ⟨rfl, b1⟩
  have k1 := SBlk.new w1 (hvals x h) 47
  have hb1 := below_alloc w1 (.cells (hvals x h) 47)
  have hgl : w1.heap.size < (w1.alloc (.cells (hvals x h) 47)).heap.size := by simp
  have HB1 := hide ((unhide HB).trans ((b1.trans (hb1.mono b1.size)).mono (unhide HB).size))
  obtain ⟨W1, e1⟩ : ∃ W1, w1.alloc (.cells (hvals x h) 47) = W1 := ⟨_, rfl⟩
  rw [e1] at k1 HB1 hgl
  obtain ⟨y0, y1, y2, y3, y4, y5, y6, y7, y8, y9, y10⟩ := hcells k1
  have HC := hide (fun (W : World) (hb' : Below W1.heap.size W1 W) => hcells (k1.below hb' k1.lt))
  clear b1 hb1 k1 D0 HB x0 x1 x2 x3 x4 x5 x6 x7 x8 x9 x10
  unfold hvals at e1
  generalize hgb : w1.heap.size = gb at y0 y1 y2 y3 y4 y5 y6 y7 y8 y9 y10 HC hgl ⊢
  go_upto_region 2 with (rw [e1])
  try rw [e1]
  try rw [hgb]
  clear e1 hgb
  go_wp2_with fail
  refine ((unhide D1) _ (unhide HB1)).mono ?_
  rintro e w2 ⟨rfl, b2⟩
  have HB2 := hide ((unhide HB1).trans (b2.mono (unhide HB1).size))
  cases L
  case true =>
    go_wp2_with fail
    go_ret
    exact ⟨ret_int (by rw [unhide HE]; simp), unhide HB2⟩
  have K2 := hide b2
  obtain ⟨z0, z1, z2, z3, z4, z5, z6, z7, z8, z9, z10⟩ := (unhide HC) _ b2
  clear b2 y0 y1 y2 y3 y4 y5 y6 y7 y8 y9 y10
  go_wp2_with fail
  refine ((unhide D2) _).mono ?_
  rintro e w3 ⟨rfl, b3⟩
  have HB3 := hide ((unhide HB2).trans (b3.mono (unhide HB2).size))
  cases Nm
  · go_wp2_with fail
    go_ret
    exact ⟨ret_int (by rw [unhide HE]; simp), unhide HB3⟩
  have K3 := hide ((unhide K2).trans (b3.mono (unhide K2).size))
  obtain ⟨u0, u1, u2, u3, u4, u5, u6, u7, u8, u9, u10⟩ := (unhide HC) _ (unhide K3)
  clear b3 z0 z1 z2 z3 z4 z5 z6 z7 z8 z9 z10 K2 HB2
  go_wp2_with fail
  refine ((unhide D3) _ (unhide HB3)).mono ?_
  rintro e w4 ⟨rfl, b4⟩
  have HB4 := hide ((unhide HB3).trans (b4.mono (unhide HB3).size))
  have K4 := hide ((unhide K3).trans (b4.mono (unhide K3).size))
  clear b4 u0 u1 u2 u3 u4 u5 u6 u7 u8 u9 u10
  by_cases hq : q = 0
  · subst hq
    obtain ⟨v0, v1, v2, v3, v4, v5, v6, v7, v8, v9, v10⟩ := (unhide HC) _ (unhide K4)
    go_wp2_with fail
    refine ((unhide D4) _ (unhide HB4)).mono ?_
    rintro e w5 ⟨rfl, b5⟩
    go_wp2_with fail
    go_ret
    exact ⟨ret_int (by rw [unhide HE]; simp), (unhide HB4).trans (b5.mono (unhide HB4).size)⟩
  · have hne : (q != 0) = true := by simp [hq]
    go_wp2_with fail
    go_ret
    exact ⟨ret_int (by rw [unhide HE]; simp [hq]), unhide HB4⟩

end Go.Proofs.Ytlenpjbkbjdbeaa
