/- What is proved here: what WasRecent answers, in the program and in the model. -/
import Derived.Test.YtalkhlimkanlcaaJ11
import Derived.Test.YtalkhlimkanlcaaJ7
namespace Go.Proofs.Ytalkhlimkanlcaa
open Go.RowKit
set_option linter.unusedVariables false
set_option maxRecDepth 100000

/-- Whether one of some recents is of a signer, above a bound. -/
def rcHit (b : Int) (z : List Int) (r : Rc) : Bool := decide (b < r.1) && decide (r.2 = z)
def rcAny (b : Int) (z : List Int) (rs : List Rc) : Bool := rs.any (rcHit b z)
def wrAns (x : Sn) (z : List Int) (n : Int) : Bool := decide (snFlt x = 0) && (within n 0 1099511627776 && rcAny (n - ((x.2.1.length / 2 : Nat) : Int) - 1) z x.2.2.1)

theorem rcAny_step (b : Int) (z : List Int) (rs : List Rc) (k : Nat) (r : Rc) (h : rs[k]? = some r) : rcAny b z (rs.drop k) = (rcHit b z r || rcAny b z (rs.drop (k + 1))) := by
  obtain ⟨hk, e⟩ := List.getElem?_eq_some_iff.1 h
  rw [List.drop_eq_getElem_cons hk, e]
  rfl

set_option maxHeartbeats 1000000 in
theorem recentBound_any (s : Sl) (n : Int) (w : World) (hl : s.n ≤ 7) (hn : 0 ≤ n ∧ n ≤ 1099511627776) :
    Calls Try.prog 63 #[.slice s.a s.n s.c, .int .i64 n] w fun r w' => r = .returned (.int .i64 (n - ((s.n / 2 : Nat) : Int) - 1)) ∧ w' = w := by
  obtain ⟨a, len, cap⟩ := s
  simp only at hl ⊢
  obtain ⟨hh, ehh⟩ : ∃ h : Nat, h = len / 2 := ⟨_, rfl⟩
  have s1 : ((len : Nat) : Int).tdiv 2 = (hh : Int) := by rw [Int.tdiv_eq_ediv_of_nonneg (by omega)]; omega
  have s1' : ((len : Nat) : Int) / 2 = (hh : Int) := by omega
  have s2 : IntKind.i64.wrap (hh : Int) = (hh : Int) := by rw [IntKind.wrap_i64]; omega
  have s3 : IntKind.i64.wrap (n - (hh : Int)) = n - (hh : Int) := by rw [IntKind.wrap_i64]; omega
  have s4 : IntKind.i64.wrap (n - (hh : Int) - 1) = n - (hh : Int) - 1 := by rw [IntKind.wrap_i64]; omega
  rw [← ehh]
  clear ehh
  go_enter Try.func63, Try.ntmps63
  go_wp2_with fail
  go_ret
  exact ⟨rfl, rfl⟩

set_option maxHeartbeats 4000000 in
theorem implRecent_any (e : SnS) (x : Sn) (s : Sl) (z : List Int) (n : Int) (w : World) (o : SNK.Ok w e x) (q : BOk w s z) (m : SnSm x) (mz : z.length ≤ 1048576) :
    Calls Try.prog 31 #[.agg (snvals e x), .slice s.a s.n s.c, .int .i64 n] w fun r w' => r = .returned (.bool (wrAns x z n)) ∧ Below w.heap.size w w' := by
  have kb := SBlk.new w (snvals e x) 32
  have bb := below_alloc w (.cells (snvals e x) 32)
  obtain ⟨W0, e0⟩ : ∃ W, w.alloc (.cells (snvals e x) 32) = W := ⟨_, rfl⟩
  rw [e0] at kb bb
  have HF := hide (implSnapFault_any e x W0 (SNK.below o bb (Nat.le_refl _)) m)
  have HN := hide (fun W => isNumber_to n _ W rfl)
  have ll : e.2.1.n = x.2.1.length := o.2.1.len
  have HRB := hide (fun (W : World) (hl : e.2.1.n ≤ 7) (hn : 0 ≤ n ∧ n ≤ 1099511627776) => recentBound_any e.2.1 n W hl hn)
  have HK := hide (fun (W : World) (hb : Below W0.heap.size W0 W) => kb.below hb kb.lt)
  have HBB := hide bb
  have HQ := hide q
  have HRO := hide o.2.2.1
  have c0 := kb.cell 0
  have c1 := kb.cell 1
  have c2 := kb.cell 2
  have c3 := kb.cell 3
  simp only [snvals, List.getElem?_cons_zero, List.getElem?_cons_succ] at c0 c1 c2 c3
  have HE : Hid (wrAns x z n = (decide (snFlt x = 0) && (within n 0 1099511627776 && rcAny (n - ((e.2.1.n / 2 : Nat) : Int) - 1) z x.2.2.1))) := by show _ = _; rw [ll]; rfl
  have HSG : Hid (snFlt x = 0 → e.2.1.n ≤ 7) := fun h => by have := snFlt_sg h; omega
  have HWN : Hid (within n 0 1099511627776 = true → 0 ≤ n ∧ n ≤ 1099511627776) := fun h => by unfold within at h; simpa using h
  have hrl : x.2.2.1.length ≤ 1048576 := m.r
  clear o q m mz kb bb ll
  generalize wrAns x z n = ans at HE ⊢
  generalize snFlt x = fl at HF HE HSG
  generalize within n 0 1099511627776 = wn at HN HE HWN
  unfold snvals at e0 HF ⊢
  obtain ⟨ee, e1, ⟨a, len, cap⟩, e3⟩ := e
  obtain ⟨x0, x1, rs, x3⟩ := x
  simp only at *
  go_enter Try.func31, Try.ntmps31
  go_wp2_with (rw [e0])
  try rw [e0]
  clear e0
  refine (unhide HF).mono ?_
  rintro r w1 ⟨rfl, b1⟩
  have HB1 := hide ((unhide HBB).trans (b1.mono (unhide HBB).size))
  have kb := (unhide HK) w1 b1
  have d1 := kb.cell 1
  have d2 := kb.cell 2
  simp only [snvals, List.getElem?_cons_zero, List.getElem?_cons_succ] at d1 d2
  clear b1 kb HK HF
  by_cases n0 : fl = 0
  case neg =>
    have h0 : (fl != 0) = true := by simp [n0]
    have HA : Hid (ans = false) := by show _ = _; rw [unhide HE]; simp [n0]
    go_wp2_with fail
    go_ret
    exact ⟨ret_bool (unhide HA).symm, unhide HB1⟩
  subst n0
  have h0 : ((0 : Int) != 0) = false := by simp
  go_wp2_with fail
  refine ((unhide HN) _).mono ?_
  rintro r w2 ⟨rfl, rfl⟩
  cases wn
  · have HA : Hid (ans = false) := by show _ = _; rw [unhide HE]; simp
    go_wp2_with fail
    go_ret
    exact ⟨ret_bool (unhide HA).symm, unhide HB1⟩
  have HE2 : Hid (ans = rcAny (n - ((e1.n / 2 : Nat) : Int) - 1) z rs) := by show _ = _; rw [unhide HE]; simp
  have HR2 := hide (fun W => (unhide HRB) W ((unhide HSG) (by simp)) ((unhide HWN) (by simp)))
  clear HE HRB HSG HWN
  generalize n - ((e1.n / 2 : Nat) : Int) - 1 = bd at HE2 HR2
  go_wp2_with fail
  refine ((unhide HR2) _).mono ?_
  rintro r w3 ⟨rfl, rfl⟩
  have hil : len = rs.length := (unhide HRO).len
  have HL := hide hil
  have HR := hide (fun hp => RowOk.pos (RowOk.below (unhide HRO) (unhide HB1) (Nat.le_refl _)) hp)
  have hln : len ≤ 1048576 := by omega
  simp only at HR
  clear hil
  go_wp2_with fail
  go_loopw [25] (fun i wr => ∃ k : Nat, k ≤ len ∧ i = .int .i64 k ∧ ans = rcAny bd z (rs.drop k) ∧ Below w3.heap.size w3 wr) (fun i _ => len - (intOf i).toNat)
  case atStart => exact ⟨0, Nat.zero_le _, rfl, by rw [List.drop_zero]; exact unhide HE2, Below.refl _ _⟩
  case round =>
    obtain ⟨k, hk, rfl, hpre, hbr⟩ := hrel
    by_cases hlt : k < len
    · obtain ⟨b, off, ea, hb, hc⟩ := (unhide HR) (by show 0 < len; omega)
      subst ea
      obtain ⟨v, hv⟩ : ∃ v, rs[k]? = some v := ⟨_, List.getElem?_eq_getElem (by rw [← unhide HL]; exact hlt)⟩
      obtain ⟨⟨⟨⟩, t⟩, c, oo⟩ := hc k v hv
      have hst := rcAny_step bd z rs k v hv
      obtain ⟨mm, y⟩ := v
      have c0' := (hbr.cell (p := ⟨b, off + k * rcK.m + 0, none⟩) hb).trans (c 0 _ rfl)
      have c1' := (hbr.cell (p := ⟨b, off + k * rcK.m + 1, none⟩) hb).trans (c 1 _ rfl)
      simp only [Nat.add_zero, show rcK.m = 2 from rfl] at c0' c1'
      have hhit : rcHit bd z (mm, y) = (decide (bd < mm) && decide (y = z)) := rfl
      rw [hhit] at hst
      have ka := SBlk.new wr #[.int .i64 mm, .slice t.a t.n t.c] 87
      have ba := below_alloc wr (.cells #[.int .i64 mm, .slice t.a t.n t.c] 87)
      have bw := hbr.trans (ba.mono hbr.size)
      obtain ⟨W4, e4⟩ : ∃ W, wr.alloc (.cells #[.int .i64 mm, .slice t.a t.n t.c] 87) = W := ⟨_, rfl⟩
      rw [e4] at ka bw
      have HSM := hide (implSame_kd t s y z W4 (bytesK.below oo.2 bw (Nat.le_refl _)) (bytesK.below (unhide HQ) ((unhide HB1).trans (bw.mono (unhide HB1).size)) (Nat.le_refl _)))
      have d0' := ka.cell 0
      have d1' := ka.cell 1
      simp only [List.getElem?_cons_zero, List.getElem?_cons_succ] at d0' d1'
      have HST := hide (And.intro hpre hst)
      have HB4 := hide bw
      have i1 : (0 : Int) ≤ (k : Int) := by omega
      have i2 : (k : Int) < (len : Int) := by omega
      clear hc c oo hst hpre hbr hv ka ba bw hhit
      generalize decide (y = z) = sm at HSM HST
      by_cases hbd : bd < mm
      case neg =>
        have hd : decide (bd < mm) = false := decide_eq_false hbd
        go_wp2_with (rw [e4])
        try rw [e4]
        clear e4
        go_roundw
        case rel => exact ⟨k + 1, by omega, by go_num, by rw [(unhide HST).1, (unhide HST).2, hd]; simp, unhide HB4⟩
        case measure => simp [intOf]; omega
      have hd : decide (bd < mm) = true := decide_eq_true hbd
      go_wp2_with (rw [e4])
      try rw [e4]
      clear e4
      refine (unhide HSM).mono ?_
      rintro r w5 ⟨rfl, rfl⟩
      cases sm
      · go_wp2_with fail
        go_roundw
        case rel => exact ⟨k + 1, by omega, by go_num, by rw [(unhide HST).1, (unhide HST).2, hd]; simp, unhide HB4⟩
        case measure => simp [intOf]; omega
      · have HA : Hid (ans = true) := by show _ = _; rw [(unhide HST).1, (unhide HST).2, hd]; simp
        go_wp2_with fail
        go_ret
        exact ⟨ret_bool (unhide HA).symm, (unhide HB1).trans ((unhide HB4).mono (unhide HB1).size)⟩
    · obtain rfl : k = len := by omega
      rw [List.drop_eq_nil_of_le (by rw [← unhide HL]; exact Nat.le_refl _)] at hpre
      have HA : Hid (ans = false) := hpre
      have HB4 := hide hbr
      clear hpre hbr
      go_wp2_with fail
      go_ret
      exact ⟨ret_bool (unhide HA).symm, (unhide HB1).trans ((unhide HB4).mono (unhide HB1).size)⟩

set_option maxHeartbeats 4000000 in
theorem l7Recent_any (g : Nat) (e : SnS) (x : Sn) (T : TypeId) (s : Sl) (z : List Int) (n : Int) (w : World) (sb : SBlk w g (snvals e x).toList T) (o : RowOk rcK w e.2.2.1 x.2.2.1) (q : BOk w s z) (hl : e.2.1.n ≤ 7) (hr : x.2.2.1.length ≤ 1048576) (hn : 0 ≤ n ∧ n ≤ 1099511627776) :
    Calls Try.prog 62 #[.pointer (some ⟨g, 0, none⟩), .slice s.a s.n s.c, .int .i64 n] w fun r w' => r = .returned (.bool (rcAny (n - ((e.2.1.n / 2 : Nat) : Int) - 1) z x.2.2.1)) ∧ ∃ k, w' = w.drewN k := by
  obtain ⟨ee, ⟨a1, len1, cap1⟩, ⟨a, len, cap⟩, e3⟩ := e
  obtain ⟨x0, x1, rs, x3⟩ := x
  have hil : len = rs.length := o.len
  have HR := hide (fun hp => RowOk.pos o hp)
  have HL := hide hil
  have HQ := hide q
  simp only at hl hr HR ⊢
  have hln : len ≤ 1048576 := by omega
  have u1 := sb.cell 1
  have u2 := sb.cell 2
  simp only [snvals, List.getElem?_cons_zero, List.getElem?_cons_succ] at u1 u2
  obtain ⟨hh, ehh⟩ : ∃ h : Nat, h = len1 / 2 := ⟨_, rfl⟩
  have s1 : ((len1 : Nat) : Int).tdiv 2 = (hh : Int) := by rw [Int.tdiv_eq_ediv_of_nonneg (by omega)]; omega
  have s1' : ((len1 : Nat) : Int) / 2 = (hh : Int) := by omega
  have s2 : IntKind.i64.wrap (hh : Int) = (hh : Int) := by rw [IntKind.wrap_i64]; omega
  obtain ⟨lim, elim⟩ : ∃ l : Int, l = (hh : Int) + 1 := ⟨_, rfl⟩
  have s3 : (hh : Int) + 1 = lim := elim.symm
  have s4 : IntKind.i64.wrap lim = lim := by rw [IntKind.wrap_i64]; omega
  obtain ⟨bd, ebd⟩ : ∃ b : Int, b = n - lim := ⟨_, rfl⟩
  have s5 : n - lim = bd := ebd.symm
  have s6 : IntKind.i64.wrap bd = bd := by rw [IntKind.wrap_i64]; omega
  have EB : Hid (n - ((len1 / 2 : Nat) : Int) - 1 = bd) := by show _ = _; omega
  rw [unhide EB]
  have HU := hide (And.intro u1 u2)
  clear o q hil sb ehh elim ebd EB
  go_enter Try.func62, Try.ntmps62
  go_wp2_with fail
  go_loop [8] (fun i => ∃ k : Nat, k ≤ len ∧ i = .int .i64 k ∧ rcAny bd z rs = rcAny bd z (rs.drop k)) (fun i => len - (intOf i).toNat)
  case atStart => exact ⟨0, Nat.zero_le _, rfl, by simp⟩
  case round =>
    obtain ⟨k, hk, rfl, hpre⟩ := hrel
    by_cases hlt : k < len
    · obtain ⟨b, off, ea, hb, hc⟩ := (unhide HR) (by show 0 < len; omega)
      subst ea
      obtain ⟨v, hv⟩ : ∃ v, rs[k]? = some v := ⟨_, List.getElem?_eq_getElem (by rw [← unhide HL]; exact hlt)⟩
      obtain ⟨⟨⟨⟩, t⟩, c, oo⟩ := hc k v hv
      have hst := rcAny_step bd z rs k v hv
      obtain ⟨mm, y⟩ := v
      have c0 := c 0 _ rfl
      have c1 := c 1 _ rfl
      simp only [Nat.add_zero, show rcK.m = 2 from rfl] at c0 c1
      have hhit : rcHit bd z (mm, y) = (decide (bd < mm) && decide (y = z)) := rfl
      rw [hhit] at hst
      have HSM := hide (l1Same_kd t s y z w oo.2 (unhide HQ))
      have HST := hide (And.intro hpre hst)
      have i1 : (0 : Int) ≤ (k : Int) := by omega
      have i2 : (k : Int) < (len : Int) := by omega
      clear hc c oo hst hpre hv hhit
      generalize decide (y = z) = sm at HSM HST
      go_wp2_with fail
      refine (unhide HSM).mono ?_
      rintro r w5 ⟨rfl, rfl⟩
      cases sm
      · go_wp2_with fail
        go_round
        case rel => exact ⟨k + 1, by omega, by go_num, by rw [(unhide HST).1, (unhide HST).2]; simp⟩
        case measure => simp [intOf]; omega
      by_cases hbd : bd < mm
      case neg =>
        have hd : decide (bd < mm) = false := decide_eq_false hbd
        go_wp2_with fail
        go_round
        case rel => exact ⟨k + 1, by omega, by go_num, by rw [(unhide HST).1, (unhide HST).2, hd]; simp⟩
        case measure => simp [intOf]; omega
      have hd : decide (bd < mm) = true := decide_eq_true hbd
      have HA : Hid (rcAny bd z rs = true) := by show _ = _; rw [(unhide HST).1, (unhide HST).2, hd]; simp
      go_wp2_with fail
      go_ret
      exact ⟨ret_bool (unhide HA).symm, 0, rfl⟩
    · obtain rfl : k = len := by omega
      rw [List.drop_eq_nil_of_le (by rw [← unhide HL]; exact Nat.le_refl _)] at hpre
      have HA : Hid (rcAny bd z rs = false) := hpre
      clear hpre
      go_wp2_with fail
      go_ret
      exact ⟨ret_bool (unhide HA).symm, 0, rfl⟩

set_option maxHeartbeats 4000000 in
theorem specRecent_any (e : SnS) (x : Sn) (s : Sl) (z : List Int) (n : Int) (w : World) (o : SNK.Ok w e x) (q : BOk w s z) (m : SnSm x) (mz : z.length ≤ 1048576) :
    Calls Try.prog 30 #[.agg (snvals e x), .slice s.a s.n s.c, .int .i64 n] w fun r w' => r = .returned (.bool (wrAns x z n)) ∧ Below w.heap.size w w' := by
  have kb := SBlk.new w (snvals e x) 32
  have bb := below_alloc w (.cells (snvals e x) 32)
  obtain ⟨W0, e0⟩ : ∃ W, w.alloc (.cells (snvals e x) 32) = W := ⟨_, rfl⟩
  rw [e0] at kb bb
  have HF := hide (l7Fault_any w.heap.size e x 32 W0 kb (SNK.below o bb (Nat.le_refl _)) m)
  have HN := hide (fun W => l5Number_any n W)
  have ll : e.2.1.n = x.2.1.length := o.2.1.len
  have HT := hide (fun (W : World) (hb : Below W0.heap.size W0 W) (hl : e.2.1.n ≤ 7) (hn : 0 ≤ n ∧ n ≤ 1099511627776) => l7Recent_any w.heap.size e x 32 s z n W (kb.below hb kb.lt) (RowOk.below o.2.2.1 (bb.trans (hb.mono bb.size)) (Nat.le_refl _)) (bytesK.below q (bb.trans (hb.mono bb.size)) (Nat.le_refl _)) hl m.r hn)
  have HBB := hide bb
  have HE : Hid (wrAns x z n = (decide (snFlt x = 0) && (within n 0 1099511627776 && rcAny (n - ((e.2.1.n / 2 : Nat) : Int) - 1) z x.2.2.1))) := by show _ = _; rw [ll]; rfl
  have HSG : Hid (snFlt x = 0 → e.2.1.n ≤ 7) := fun h => by have := snFlt_sg h; omega
  have HWN : Hid (within n 0 1099511627776 = true → 0 ≤ n ∧ n ≤ 1099511627776) := fun h => by unfold within at h; simpa using h
  clear o q m mz kb bb ll
  generalize wrAns x z n = ans at HE ⊢
  generalize snFlt x = fl at HF HE HSG
  generalize within n 0 1099511627776 = wn at HN HE HWN
  generalize rcAny (n - ((e.2.1.n / 2 : Nat) : Int) - 1) z x.2.2.1 = ra at HT HE
  unfold snvals at e0 ⊢
  go_enter Try.func30, Try.ntmps30
  go_wp2_with (rw [e0])
  try rw [e0]
  clear e0
  refine (unhide HF).mono ?_
  rintro r w1 ⟨rfl, k1, rfl⟩
  by_cases n0 : fl = 0
  case neg =>
    have h0 : (fl == 0) = false := by rw [beq_eq_false_iff_ne]; exact n0
    have HA : Hid (ans = false) := by show _ = _; rw [unhide HE]; simp [n0]
    go_wp2_with fail
    go_ret
    exact ⟨ret_bool (unhide HA).symm, below_drewN (unhide HBB) k1⟩
  subst n0
  have h0 : ((0 : Int) == 0) = true := by simp
  go_wp2_with fail
  refine ((unhide HN) _).mono ?_
  rintro r w2 ⟨rfl, rfl⟩
  cases wn
  · have HA : Hid (ans = false) := by show _ = _; rw [unhide HE]; simp
    go_wp2_with fail
    go_ret
    exact ⟨ret_bool (unhide HA).symm, below_drewN (unhide HBB) k1⟩
  have HA : Hid (ans = ra) := by show _ = _; rw [unhide HE]; simp
  have hl := (unhide HSG) (by simp)
  have hn := (unhide HWN) (by simp)
  go_wp2_with fail
  refine ((unhide HT) _ (below_drewN (Below.refl _ _) _) hl hn).mono ?_
  rintro r w4 ⟨rfl, k4, rfl⟩
  go_wp2_with fail
  go_ret
  exact ⟨ret_bool (unhide HA).symm, by first | exact below_drewN (below_drewN (unhide HBB) k1) k4 | exact below_drewN (unhide HBB) _⟩

end Go.Proofs.Ytalkhlimkanlcaa
