/- What is proved here: what WasRecent answers, in the program and in the model. -/
import Derived.Test.YtnmbdannipebnaaGreatDoorJ20
import Derived.Test.YtnmbdannipebnaaGreatDoorJ18
import Derived.Test.YtnmbdannipebnaaGreatDoorJ5
import Derived.Test.YtnmbdannipebnaaGreatDoorJ14
import Derived.Maps.AppendAt
import Derived.Test.YtnmbdannipebnaaGreatDoorJ6
import Derived.Test.YtnmbdannipebnaaGreatDoorJ4
namespace Go.Proofs.YtnmbdannipebnaaGreatDoor
open Go.RowKit
set_option linter.unusedVariables false
set_option maxRecDepth 100000

/-- Whether one of some recents is of a signer, above a bound. -/
def rcHit (b : Int) (z : List Int) (r : Rc) : Bool := decide (b < r.1) && decide (r.2 = z)
def rcAny (b : Int) (z : List Int) (rs : List Rc) : Bool := rs.any (rcHit b z)
def wrAns (x : Sn) (z : List Int) (n : Int) : Bool := decide (snFlt x = 0) && (within n 0 1099511627776 && rcAny (n - ((x.2.1.length / 2 : Nat) : Int) - 1) z x.2.2.1)

theorem rcAny_step (b : Int) (z : List Int) (rs : List Rc) (k : Nat) (r : Rc) (h : rs[k]? = some r) : rcAny b z (rs.drop k) = (rcHit b z r || rcAny b z (rs.drop (k + 1))) := by
  obtain ⟨hk, e⟩ := List.getElem?_eq_some_iff.1 h
  rw [List.drop_eq_getElem_cons hk, e]
  rfl

set_option maxHeartbeats 1000000 in
theorem recentBound_any (s : Sl) (n : Int) (w : World) (hl : s.n ≤ 7) (hn : 0 ≤ n ∧ n ≤ 1099511627776) :
    Calls Tryz.prog 171 #[.slice s.a s.n s.c, .int .i64 n] w fun r w' => r = .returned (.int .i64 (n - ((s.n / 2 : Nat) : Int) - 1)) ∧ w' = w := by
  obtain ⟨a, len, cap⟩ := s
  simp only at hl ⊢
  obtain ⟨hh, ehh⟩ : ∃ h : Nat, h = len / 2 := ⟨_, rfl⟩
  have s1 : ((len : Nat) : Int).tdiv 2 = (hh : Int) := by rw [Int.tdiv_eq_ediv_of_nonneg (by omega)]; omega
  have s1' : ((len : Nat) : Int) / 2 = (hh : Int) := by omega
  have s2 : IntKind.i64.wrap (hh : Int) = (hh : Int) := by rw [IntKind.wrap_i64]; omega
  have s3 : IntKind.i64.wrap (n - (hh : Int)) = n - (hh : Int) := by rw [IntKind.wrap_i64]; omega
  have s4 : IntKind.i64.wrap (n - (hh : Int) - 1) = n - (hh : Int) - 1 := by rw [IntKind.wrap_i64]; omega
  rw [← ehh]
  clear ehh
  go_enter Tryz.func171, Tryz.ntmps171
  go_wp2_with fail
  go_ret
  exact ⟨rfl, rfl⟩

set_option maxHeartbeats 4000000 in
theorem implRecent_any (e : SnS) (x : Sn) (s : Sl) (z : List Int) (n : Int) (w : World) (o : SNK.Ok w e x) (q : BOk w s z) (m : SnSm x) (mz : z.length ≤ 1048576) :
    Calls Tryz.prog 144 #[.agg (snvals e x), .slice s.a s.n s.c, .int .i64 n] w fun r w' => r = .returned (.bool (wrAns x z n)) ∧ Below w.heap.size w w' := by
  have kb := SBlk.new w (snvals e x) 40
  have bb := below_alloc w (.cells (snvals e x) 40)
  obtain ⟨W0, e0⟩ : ∃ W, w.alloc (.cells (snvals e x) 40) = W := ⟨_, rfl⟩
  rw [e0] at kb bb
  have HF := hide (implSnapFault_any e x W0 (SNK.below o bb (Nat.le_refl _)) m)
  have HN := hide (fun W => isNumber_to n _ W rfl)
  have ll : e.2.1.n = x.2.1.length := o.2.1.len
  have HRB := hide (fun (W : World) (hl : e.2.1.n ≤ 7) (hn : 0 ≤ n ∧ n ≤ 1099511627776) => recentBound_any e.2.1 n W hl hn)
  have HK := hide (fun (W : World) (hb : Below W0.heap.size W0 W) => kb.below hb kb.lt)
  have HBB := hide bb
  have HQ := hide q
  have HRO := hide o.2.2.1
  have c0 := kb.cell 0
  have c1 := kb.cell 1
  have c2 := kb.cell 2
  have c3 := kb.cell 3
  simp only [snvals, List.getElem?_cons_zero, List.getElem?_cons_succ] at c0 c1 c2 c3
  have HE : Hid (wrAns x z n = (decide (snFlt x = 0) && (within n 0 1099511627776 && rcAny (n - ((e.2.1.n / 2 : Nat) : Int) - 1) z x.2.2.1))) := by show _ = _; rw [ll]; rfl
  have HSG : Hid (snFlt x = 0 → e.2.1.n ≤ 7) := fun h => by have := snFlt_sg h; omega
  have HWN : Hid (within n 0 1099511627776 = true → 0 ≤ n ∧ n ≤ 1099511627776) := fun h => by unfold within at h; simpa using h
  have hrl : x.2.2.1.length ≤ 1048576 := m.r
  clear o q m mz kb bb ll
  generalize wrAns x z n = ans at HE ⊢
  generalize snFlt x = fl at HF HE HSG
  generalize within n 0 1099511627776 = wn at HN HE HWN
  unfold snvals at e0 HF ⊢
  obtain ⟨ee, e1, ⟨a, len, cap⟩, e3⟩ := e
  obtain ⟨x0, x1, rs, x3⟩ := x
  simp only at *
  go_enter Tryz.func144, Tryz.ntmps144
  go_wp2_with (rw [e0])
  try rw [e0]
  clear e0
  refine (unhide HF).mono ?_
  rintro r w1 ⟨rfl, b1⟩
  have HB1 := hide ((unhide HBB).trans (b1.mono (unhide HBB).size))
  have kb := (unhide HK) w1 b1
  have d1 := kb.cell 1
  have d2 := kb.cell 2
  simp only [snvals, List.getElem?_cons_zero, List.getElem?_cons_succ] at d1 d2
  clear b1 kb HK HF
  by_cases n0 : fl = 0
  case neg =>
    have h0 : (fl != 0) = true := by simp [n0]
    have HA : Hid (ans = false) := by show _ = _; rw [unhide HE]; simp [n0]
    go_wp2_with fail
    go_ret
    exact ⟨ret_bool (unhide HA).symm, unhide HB1⟩
  subst n0
  have h0 : ((0 : Int) != 0) = false := by simp
  go_wp2_with fail
  refine ((unhide HN) _).mono ?_
  rintro r w2 ⟨rfl, rfl⟩
  cases wn
  · have HA : Hid (ans = false) := by show _ = _; rw [unhide HE]; simp
    go_wp2_with fail
    go_ret
    exact ⟨ret_bool (unhide HA).symm, unhide HB1⟩
  have HE2 : Hid (ans = rcAny (n - ((e1.n / 2 : Nat) : Int) - 1) z rs) := by show _ = _; rw [unhide HE]; simp
  have HR2 := hide (fun W => (unhide HRB) W ((unhide HSG) (by simp)) ((unhide HWN) (by simp)))
  clear HE HRB HSG HWN
  generalize n - ((e1.n / 2 : Nat) : Int) - 1 = bd at HE2 HR2
  go_wp2_with fail
  refine ((unhide HR2) _).mono ?_
  rintro r w3 ⟨rfl, rfl⟩
  have hil : len = rs.length := (unhide HRO).len
  have HL := hide hil
  have HR := hide (fun hp => RowOk.pos (RowOk.below (unhide HRO) (unhide HB1) (Nat.le_refl _)) hp)
  have hln : len ≤ 1048576 := by omega
  simp only at HR
  clear hil
  go_wp2_with fail
  go_loopw [25] (fun i wr => ∃ k : Nat, k ≤ len ∧ i = .int .i64 k ∧ ans = rcAny bd z (rs.drop k) ∧ Below w3.heap.size w3 wr) (fun i _ => len - (intOf i).toNat)
  case atStart => exact ⟨0, Nat.zero_le _, rfl, by rw [List.drop_zero]; exact unhide HE2, Below.refl _ _⟩
  case round =>
    obtain ⟨k, hk, rfl, hpre, hbr⟩ := hrel
    by_cases hlt : k < len
    · obtain ⟨b, off, ea, hb, hc⟩ := (unhide HR) (by show 0 < len; omega)
      subst ea
      obtain ⟨v, hv⟩ : ∃ v, rs[k]? = some v := ⟨_, List.getElem?_eq_getElem (by rw [← unhide HL]; exact hlt)⟩
      obtain ⟨⟨⟨⟩, t⟩, c, oo⟩ := hc k v hv
      have hst := rcAny_step bd z rs k v hv
      obtain ⟨mm, y⟩ := v
      have c0' := (hbr.cell (p := ⟨b, off + k * rcK.m + 0, none⟩) hb).trans (c 0 _ rfl)
      have c1' := (hbr.cell (p := ⟨b, off + k * rcK.m + 1, none⟩) hb).trans (c 1 _ rfl)
      simp only [Nat.add_zero, show rcK.m = 2 from rfl] at c0' c1'
      have hhit : rcHit bd z (mm, y) = (decide (bd < mm) && decide (y = z)) := rfl
      rw [hhit] at hst
      have ka := SBlk.new wr #[.int .i64 mm, .slice t.a t.n t.c] 109
      have ba := below_alloc wr (.cells #[.int .i64 mm, .slice t.a t.n t.c] 109)
      have bw := hbr.trans (ba.mono hbr.size)
      obtain ⟨W4, e4⟩ : ∃ W, wr.alloc (.cells #[.int .i64 mm, .slice t.a t.n t.c] 109) = W := ⟨_, rfl⟩
      rw [e4] at ka bw
      have HSM := hide (implSame_kd t s y z W4 (bytesK.below oo.2 bw (Nat.le_refl _)) (bytesK.below (unhide HQ) ((unhide HB1).trans (bw.mono (unhide HB1).size)) (Nat.le_refl _)))
      have d0' := ka.cell 0
      have d1' := ka.cell 1
      simp only [List.getElem?_cons_zero, List.getElem?_cons_succ] at d0' d1'
      have HST := hide (And.intro hpre hst)
      have HB4 := hide bw
      have i1 : (0 : Int) ≤ (k : Int) := by omega
      have i2 : (k : Int) < (len : Int) := by omega
      clear hc c oo hst hpre hbr hv ka ba bw hhit
      generalize decide (y = z) = sm at HSM HST
      by_cases hbd : bd < mm
      case neg =>
        have hd : decide (bd < mm) = false := decide_eq_false hbd
        go_wp2_with (rw [e4])
        try rw [e4]
        clear e4
        go_roundw
        case rel => exact ⟨k + 1, by omega, by go_num, by rw [(unhide HST).1, (unhide HST).2, hd]; simp, unhide HB4⟩
        case measure => simp [intOf]; omega
      have hd : decide (bd < mm) = true := decide_eq_true hbd
      go_wp2_with (rw [e4])
      try rw [e4]
      clear e4
      refine (unhide HSM).mono ?_
      rintro r w5 ⟨rfl, rfl⟩
      cases sm
      · go_wp2_with fail
        go_roundw
        case rel => exact ⟨k + 1, by omega, by go_num, by rw [(unhide HST).1, (unhide HST).2, hd]; simp, unhide HB4⟩
        case measure => simp [intOf]; omega
      · have HA : Hid (ans = true) := by show _ = _; rw [(unhide HST).1, (unhide HST).2, hd]; simp
        go_wp2_with fail
        go_ret
        exact ⟨ret_bool (unhide HA).symm, (unhide HB1).trans ((unhide HB4).mono (unhide HB1).size)⟩
    · obtain rfl : k = len := by omega
      rw [List.drop_eq_nil_of_le (by rw [← unhide HL]; exact Nat.le_refl _)] at hpre
      have HA : Hid (ans = false) := hpre
      have HB4 := hide hbr
      clear hpre hbr
      go_wp2_with fail
      go_ret
      exact ⟨ret_bool (unhide HA).symm, (unhide HB1).trans ((unhide HB4).mono (unhide HB1).size)⟩

set_option maxHeartbeats 4000000 in
theorem l7Recent_any (g : Nat) (e : SnS) (x : Sn) (T : TypeId) (s : Sl) (z : List Int) (n : Int) (w : World) (sb : SBlk w g (snvals e x).toList T) (o : RowOk rcK w e.2.2.1 x.2.2.1) (q : BOk w s z) (hl : e.2.1.n ≤ 7) (hr : x.2.2.1.length ≤ 1048576) (hn : 0 ≤ n ∧ n ≤ 1099511627776) :
    Calls Tryz.prog 119 #[.pointer (some ⟨g, 0, none⟩), .slice s.a s.n s.c, .int .i64 n] w fun r w' => r = .returned (.bool (rcAny (n - ((e.2.1.n / 2 : Nat) : Int) - 1) z x.2.2.1)) ∧ ∃ k, w' = w.drewN k := by
  obtain ⟨ee, ⟨a1, len1, cap1⟩, ⟨a, len, cap⟩, e3⟩ := e
  obtain ⟨x0, x1, rs, x3⟩ := x
  have hil : len = rs.length := o.len
  have HR := hide (fun hp => RowOk.pos o hp)
  have HL := hide hil
  have HQ := hide q
  simp only at hl hr HR ⊢
  have hln : len ≤ 1048576 := by omega
  have u1 := sb.cell 1
  have u2 := sb.cell 2
  simp only [snvals, List.getElem?_cons_zero, List.getElem?_cons_succ] at u1 u2
  obtain ⟨hh, ehh⟩ : ∃ h : Nat, h = len1 / 2 := ⟨_, rfl⟩
  have s1 : ((len1 : Nat) : Int).tdiv 2 = (hh : Int) := by rw [Int.tdiv_eq_ediv_of_nonneg (by omega)]; omega
  have s1' : ((len1 : Nat) : Int) / 2 = (hh : Int) := by omega
  have s2 : IntKind.i64.wrap (hh : Int) = (hh : Int) := by rw [IntKind.wrap_i64]; omega
  obtain ⟨lim, elim⟩ : ∃ l : Int, l = (hh : Int) + 1 := ⟨_, rfl⟩
  have s3 : (hh : Int) + 1 = lim := elim.symm
  have s4 : IntKind.i64.wrap lim = lim := by rw [IntKind.wrap_i64]; omega
  obtain ⟨bd, ebd⟩ : ∃ b : Int, b = n - lim := ⟨_, rfl⟩
  have s5 : n - lim = bd := ebd.symm
  have s6 : IntKind.i64.wrap bd = bd := by rw [IntKind.wrap_i64]; omega
  have EB : Hid (n - ((len1 / 2 : Nat) : Int) - 1 = bd) := by show _ = _; omega
  rw [unhide EB]
  have HU := hide (And.intro u1 u2)
  clear o q hil sb ehh elim ebd EB
  go_enter Tryz.func119, Tryz.ntmps119
  go_wp2_with fail
  go_loop [8] (fun i => ∃ k : Nat, k ≤ len ∧ i = .int .i64 k ∧ rcAny bd z rs = rcAny bd z (rs.drop k)) (fun i => len - (intOf i).toNat)
  case atStart => exact ⟨0, Nat.zero_le _, rfl, by simp⟩
  case round =>
    obtain ⟨k, hk, rfl, hpre⟩ := hrel
    by_cases hlt : k < len
    · obtain ⟨b, off, ea, hb, hc⟩ := (unhide HR) (by show 0 < len; omega)
      subst ea
      obtain ⟨v, hv⟩ : ∃ v, rs[k]? = some v := ⟨_, List.getElem?_eq_getElem (by rw [← unhide HL]; exact hlt)⟩
      obtain ⟨⟨⟨⟩, t⟩, c, oo⟩ := hc k v hv
      have hst := rcAny_step bd z rs k v hv
      obtain ⟨mm, y⟩ := v
      have c0 := c 0 _ rfl
      have c1 := c 1 _ rfl
      simp only [Nat.add_zero, show rcK.m = 2 from rfl] at c0 c1
      have hhit : rcHit bd z (mm, y) = (decide (bd < mm) && decide (y = z)) := rfl
      rw [hhit] at hst
      have HSM := hide (l1Same_kd t s y z w oo.2 (unhide HQ))
      have HST := hide (And.intro hpre hst)
      have i1 : (0 : Int) ≤ (k : Int) := by omega
      have i2 : (k : Int) < (len : Int) := by omega
      clear hc c oo hst hpre hv hhit
      generalize decide (y = z) = sm at HSM HST
      go_wp2_with fail
      refine (unhide HSM).mono ?_
      rintro r w5 ⟨rfl, rfl⟩
      cases sm
      · go_wp2_with fail
        go_round
        case rel => exact ⟨k + 1, by omega, by go_num, by rw [(unhide HST).1, (unhide HST).2]; simp⟩
        case measure => simp [intOf]; omega
      by_cases hbd : bd < mm
      case neg =>
        have hd : decide (bd < mm) = false := decide_eq_false hbd
        go_wp2_with fail
        go_round
        case rel => exact ⟨k + 1, by omega, by go_num, by rw [(unhide HST).1, (unhide HST).2, hd]; simp⟩
        case measure => simp [intOf]; omega
      have hd : decide (bd < mm) = true := decide_eq_true hbd
      have HA : Hid (rcAny bd z rs = true) := by show _ = _; rw [(unhide HST).1, (unhide HST).2, hd]; simp
      go_wp2_with fail
      go_ret
      exact ⟨ret_bool (unhide HA).symm, 0, rfl⟩
    · obtain rfl : k = len := by omega
      rw [List.drop_eq_nil_of_le (by rw [← unhide HL]; exact Nat.le_refl _)] at hpre
      have HA : Hid (rcAny bd z rs = false) := hpre
      clear hpre
      go_wp2_with fail
      go_ret
      exact ⟨ret_bool (unhide HA).symm, 0, rfl⟩

end Go.Proofs.YtnmbdannipebnaaGreatDoor

/- What is proved here: what the program's CommittersOf answers: the code, and who committed, in memory of its own. -/
namespace Go.Proofs.YtnmbdannipebnaaGreatDoor
open Go.RowKit
set_option linter.unusedVariables false
set_option maxRecDepth 100000

theorem one_at' (w : World) (x : Value) (t : TypeId) : ∀ (j : Nat) (u : Value), [x][j]? = some u → (w.alloc (.cells #[x] t)).cell? ((⟨w.heap.size, 0, none⟩ : Addr).add j) = some u := by
  intro j u hj
  rw [add_none, Nat.zero_add, World.cell?_alloc_new]
  match j, hj with
  | 0, hj => simpa using hj

theorem isUnborne_ck (ok : Bool) (v : Value) (hc : ckV ok v) (w : World) (hg : LaidE w) : Calls Tryz.prog 140 #[v] w fun e w' => e = .returned (.bool (!ok)) ∧ Below w.heap.size w w' := by
  cases ok
  · obtain ⟨t, rfl⟩ := hc
    exact isUnborne_hit t w hg
  · obtain rfl : v = .nilIface := hc
    exact isUnborne_nil w

set_option maxHeartbeats 8000000 in
theorem implCommitters_any (x : HS) (h : Hd) (w : World) (o : HOk w x h) (nn : HNil w x) (bc : BsCap w x.k.a x.k.n) (m : HSm h) (hv : Laid w) (hE : LaidE w) :
    Calls Tryz.prog 172 #[.agg (hvals x h)] w fun e w' => ∃ (s : Sl) (d : Nat → Nat), e = .returned (.agg #[.int .i64 (coCode h), .slice s.a s.n s.c]) ∧ CS w' w.heap.size d 6 8 s (coAns h) ∧ Below w.heap.size w w' := by
  have kb := SBlk.new w (hvals x h) 42
  have bb := below_alloc w (.cells (hvals x h) 42)
  have zb : (w.alloc (.cells (hvals x h) 42)).heap.size = w.heap.size + 1 := by simp
  obtain ⟨Wa, ea⟩ : ∃ W, w.alloc (.cells (hvals x h) 42) = W := ⟨_, rfl⟩
  rw [ea] at kb bb zb
  have kr := SBlk.new Wa #[.int .i64 0, .slice none 0 0] 196
  replace kb := kb.next (.cells #[.int .i64 0, .slice none 0 0] 196)
  replace bb := bb.trans ((below_alloc Wa (.cells #[.int .i64 0, .slice none 0 0] 196)).mono bb.size)
  have z1 : (Wa.alloc (.cells #[.int .i64 0, .slice none 0 0] 196)).heap.size = w.heap.size + 2 := by simp; omega
  rw [zb] at kr
  obtain ⟨W1, eb⟩ : ∃ W, Wa.alloc (.cells #[.int .i64 0, .slice none 0 0] 196) = W := ⟨_, rfl⟩
  rw [eb] at kr kb bb z1
  have D1 := hide (implHeaderFault_any x h W1 (o.below bb (Nat.le_refl _)) m)
  obtain ⟨x0, x1, x2, x3, x4, x5, x6, x7, x8, x9, x10⟩ := hcells kb
  have HRR := hide (fun (W : World) (hb : Below (w.heap.size + 2) W1 W) => hcells (kb.below hb (by omega)))
  have HKR := hide (fun (W : World) (hb : Below (w.heap.size + 2) W1 W) => kr.below hb (by omega))
  have HCK : Hid (hdFlt h = 0 → ∀ W, Below (w.heap.size + 2) W1 W → Calls Tryz.prog 200 #[.agg (hvals x h)] W fun e w' => ∃ v, e = .returned v ∧ ckV (coAll h h.k) v ∧ Below (w.heap.size + 2) W1 w') := fun hf W hb => by
    have b1 := bb.trans (hb.mono (by omega))
    have hz := hb.size
    refine (checkCommits_any x h W (o.below b1 (Nat.le_refl _)) (nn.below b1 (Nat.le_refl _)) (bc.below b1 (Nat.le_refl _)) m (hv.below b1 (Nat.le_refl _)) hf).mono ?_
    rintro e w' ⟨v, rfl, hc, hb'⟩
    exact ⟨v, rfl, hc, hb.trans (hb'.mono (by omega))⟩
  have HUN : Hid (∀ W v, Below (w.heap.size + 2) W1 W → ckV (coAll h h.k) v → Calls Tryz.prog 140 #[v] W fun e w' => e = .returned (.bool (!coAll h h.k)) ∧ Below (w.heap.size + 2) W1 w') := fun W v hb hc => by
    have b1 := bb.trans (hb.mono (by omega))
    have hz := hb.size
    refine (isUnborne_ck _ v hc W (hE.below b1 (Nat.le_refl _))).mono ?_
    rintro e w' ⟨rfl, hb'⟩
    exact ⟨rfl, hb.trans (hb'.mono (by omega))⟩
  have HK := hide (fun (W : World) (hb : Below (w.heap.size + 2) W1 W) => And.intro (o.k.below (bb.trans (hb.mono (by omega))) (Nat.le_refl _)) (bc.below (bb.trans (hb.mono (by omega))) (Nat.le_refl _)))
  have HKZ : Hid (hdFlt h = 0 → (∀ z ∈ h.k, z.length = 8) ∧ h.k.length ≤ 7) := fun hf => ⟨fun z hz => by
    have hk : coFlt h.k = 0 := by
      unfold hdFlt at hf
      split at hf
      · omega
      · split at hf
        · omega
        · split at hf
          · exact hf
          · rename_i q; exact absurd hf q
    unfold coFlt at hk
    split at hk
    · omega
    · exact coFrom_zero h.k hk z hz, (good_of hf).k⟩
  have HKL := hide o.k.1
  have HBB := hide bb
  have HCC : Hid (coCode h = if hdFlt h = 0 then (if coAll h h.k = true then (if twiceN (coAd h.k) h.k.length = true then 6 else 0) else 7) else hdFlt h) := rfl
  have HAA : Hid (coAns h = if hdFlt h = 0 ∧ coAll h h.k = true ∧ twiceN (coAd h.k) h.k.length = false then coAd h.k else []) := rfl
  have EA := hide ea
  have EB := hide eb
  clear ea eb o nn bc m hv hE kb kr bb zb
  generalize coCode h = CC at HCC ⊢
  generalize coAns h = AA at HAA ⊢
  generalize hdFlt h = q at D1 HCK HKZ HCC HAA
  generalize coAll h h.k = t at HCK HUN HCC HAA
  unfold hvals at EA D1 HCK ⊢
  go_enter Tryz.func172, Tryz.ntmps172
  go_upto_region 1 with fail
  rw [unhide EA, unhide EB]
  clear EA EB
  go_wp2_with fail
  refine (unhide D1).mono ?_
  rintro e w2 ⟨rfl, b2⟩
  have L2 : Hid (Below (w.heap.size + 2) W1 w2) := b2.mono (by omega)
  clear b2 D1 x0 x1 x2 x3 x4 x5 x6 x7 x8 x9 x10
  by_cases hq : q = 0
  · subst hq
    obtain ⟨hz8, hn7⟩ := (unhide HKZ) (by first | exact rfl | trivial)
    have HZ8 := hide hz8
    have D2 := hide ((unhide HCK) (by first | exact rfl | trivial) w2 (unhide L2))
    obtain ⟨x0, x1, x2, x3, x4, x5, x6, x7, x8, x9, x10⟩ := (unhide HRR) w2 (unhide L2)
    clear HKZ HCK hz8
    go_wp2_with fail
    refine (unhide D2).mono ?_
    rintro e w3 ⟨v3, rfl, hc3, b3⟩
    have D3 := hide ((unhide HUN) w3 v3 b3 hc3)
    clear x0 x1 x2 x3 x4 x5 x6 x7 x8 x9 x10 D2 hc3 b3 HUN
    go_wp2_with fail
    refine (unhide D3).mono ?_
    rintro e w4 ⟨rfl, b4⟩
    have L4 := hide b4
    clear D3 b4
    cases t
    · have kr := (unhide HKR) w4 (unhide L4)
      have r0 := kr.cell 0
      have r1 := kr.cell 1
      have f0 := kr.free 0
      have f1 := kr.free 1
      simp only [List.getElem?_cons_zero, List.getElem?_cons_succ] at r0 r1
      have HCV : Hid (CC = 7) := unhide HCC
      have HAV : Hid (AA = []) := by show _ = _; rw [unhide HAA, if_neg (by simp)]
      have HB4 := hide ((unhide HBB).trans ((unhide L4).mono (by omega)))
      clear kr HCC HAA
      go_wp2_with fail
      refine bodyPost_ret (v := .agg #[.int .i64 7, .slice none 0 0]) (by simp [results, Tryz.results172, go_sem, r0, r1]) rfl ⟨⟨none, 0, 0⟩, fun _ => 0, by rw [unhide HCV], by rw [unhide HAV]; exact CS.nil _ _ _ _ _, ?_⟩
      repeat (refine Below.setCell ?_ (by show w.heap.size ≤ w.heap.size + 1; omega) _)
      exact unhide HB4
    · obtain ⟨x0, x1, x2, x3, x4, x5, x6, x7, x8, x9, x10⟩ := (unhide HRR) w4 (unhide L4)
      go_wp2_with fail
      clear x0 x1 x2 x3 x4 x5 x6 x7 x8 x9 x10
      obtain ⟨i0, hi, hz0, hz1, hz2⟩ := info_parts infoSB
      have hB4 : w.heap.size + 2 ≤ w4.heap.size := by rw [← z1]; exact (unhide L4).size
      go_loopw [4, 20] (fun c i wr => ∃ (k : Nat) (u : Sl) (d : Nat → Nat), k ≤ x.k.n ∧ i = .int .i64 k ∧ c = .slice u.a u.n u.c ∧ CS wr (w.heap.size + 2) d 6 8 u ((coAd h.k).take k) ∧ Below (w.heap.size + 2) W1 wr) (fun _ i _ => x.k.n - (intOf i).toNat)
      case atStart => exact ⟨0, ⟨none, 0, 0⟩, fun _ => 6, Nat.zero_le _, rfl, rfl, CS.nil _ _ _ _ _, unhide L4⟩
      case round =>
        obtain ⟨k, u, d, hk, rfl, rfl, hcs, hbr⟩ := hrel
        have hn7' : x.k.n ≤ 7 := by have := unhide HKL; omega
        have hwr : w.heap.size + 2 ≤ wr.heap.size := by rw [← z1]; exact hbr.size
        by_cases hlt : k < x.k.n
        · obtain ⟨z, hit⟩ : ∃ z, h.k[k]? = some z := ⟨_, List.getElem?_eq_getElem (by rw [unhide HKL]; exact hlt)⟩
          obtain ⟨krow, kcap⟩ := (unhide HK) wr hbr
          obtain ⟨b0, off, hxa, _, hat⟩ := krow.at (by omega)
          obtain ⟨s1, n1, d1, c0, r1⟩ := hat k z hit
          obtain ⟨s1', n1', d1', c0', hcp⟩ := kcap b0 off hxa k hlt
          rw [c0] at c0'
          simp only [Option.some.injEq, Value.slice.injEq] at c0'
          obtain ⟨rfl, rfl, rfl⟩ := c0'
          have hz8 := (unhide HZ8) z (List.mem_of_getElem? hit)
          have hn1 : n1 = 8 := by have := r1.1; omega
          subst hn1
          have hz4 : (z.take 4).length = 4 := by rw [List.length_take]; omega
          have hzr : ∀ y ∈ z.take 4, 0 ≤ y ∧ y ≤ 255 := fun y hy => r1.2.1 y (List.mem_of_mem_take hy)
          have DA := hide (committerIn_any s1 d1 z wr r1 hcp)
          have hts := coAd_snoc h.k k z hit
          have htl : ((coAd h.k).take k).length = k := by rw [List.length_take, coAd_length]; have := unhide HKL; omega
          have htn : u.n = k := by rw [hcs.1]; exact htl
          have k1 : (0 : Int) ≤ (k : Int) := by omega
          have k2 : (k : Int) < (x.k.n : Int) := by omega
          rw [hxa]
          have HCS := hide hcs
          have HB := hide hbr
          have HTS := hide hts
          have HTL := hide htl
          have HTN := hide htn
          have HZR := hide hzr
          have HZ4 := hide hz4
          clear hcs hbr hit krow kcap hat r1 hcp hz8 hts htl htn hzr hz4
          go_wp2_with fail
          refine (unhide DA).mono ?_
          rintro e w5 ⟨a2, c2, rfl, o2, b2⟩
          have ba := below_alloc w5 (.cells #[.slice a2 4 c2] 29)
          have hs2 : wr.heap.size ≤ w5.heap.size := b2.size
          obtain ⟨d', hd'⟩ : ∃ d' : Nat → Nat, d' = fun g => if wr.heap.size ≤ g then 8 + 3 * k else d g := ⟨_, rfl⟩
          have cz : CB w5 (w.heap.size + 2) d' (8 + 3 * k) ⟨a2, 4, c2⟩ (z.take 4) := by rw [hd']; exact CB.new (unhide HZ4).symm (unhide HZR) o2 hwr
          have cs2 := ((unhide HCS).recol (d' := d') (fun g hg => by rw [hd']; exact if_neg (by omega))).below b2 (Nat.le_refl _)
          obtain ⟨h1, es, h2, h3, h4, h5⟩ := cs2.below ba (Nat.le_refl _)
          have HCZ := hide (cz.below ba (Nat.le_refl _))
          have H1 := hide h1
          have H2 := hide h2
          have H4 := hide h4
          have H5 := hide h5
          have B3 := (unhide HB).trans ((b2.trans (ba.mono b2.size)).mono hwr)
          have hsz3 : w.heap.size + 2 ≤ (w5.alloc (.cells #[.slice a2 4 c2] 29)).heap.size := Nat.le_trans hwr (Nat.le_trans hs2 ba.size)
          have hnk : u.n ≤ 1048576 := by have := unhide HTN; omega
          clear h1 h2 h4 h5 cz cs2
          go_wp2_with (at_builtin; refine wpList_append_own_at _ rfl _ _ 24 rfl (w.heap.size + 2) 29 i0 (.slice none 0 0) 1 24 Tryz.underlying24 hi hz0 hz1 hz2 rfl (by decide) _ _ _ rfl h3 ⟨w5.heap.size, 0, none⟩ 1 1 [.slice a2 4 c2] rfl rfl ?c1 ?c2 ?c3 ?c4 ?c5 ?_)
          case c1 => exact one_at' _ _ _
          case c2 => intro u hu; simp at hu; subst hu; rfl
          case c3 => unfold maxLen; omega
          case c4 => omega
          case c5 => exact hsz3
          intro v' w6 hown2 hgrow _ hblk
          obtain ⟨a6, c6, hv6⟩ := own_shape hown2
          subst hv6
          have SN := CS.mkSnoc (r := 6) (c := 8) (fun i => by omega) hsz3 (unhide H1) (unhide H2) h3 (unhide H4) (unhide H5) (by rw [unhide HTL]; exact unhide HCZ) hown2 hgrow (by rw [show (w5.alloc (.cells #[.slice a2 4 c2] 29)).heap.size = w5.heap.size + 1 by simp]; exact hblk)
          rw [← unhide HTS] at SN
          have B6 : Below (w.heap.size + 2) W1 w6 := B3.grown hgrow hsz3 (fun g e => (h3.lt g e).1)
          have HS6 := hide SN.1
          have HB6 := hide B6
          clear SN B6 hown2 hgrow hblk H1 H2 h3 H4 H5 HCZ B3 ba o2 b2 DA HCS HB hd'
          go_wp2_with fail
          go_roundw
          case rel => exact ⟨k + 1, ⟨a6, u.n + 1, c6⟩, _, by omega, by go_num, rfl, unhide HS6, unhide HB6⟩
          case measure => simp [intOf]; omega
        · obtain rfl : k = x.k.n := by omega
          have et : (coAd h.k).take x.k.n = coAd h.k := List.take_of_length_le (by rw [coAd_length, unhide HKL]; exact Nat.le_refl _)
          rw [et] at hcs
          have hun : u.n = h.k.length := by rw [hcs.1, coAd_length]
          have hub : BsRow wr u.a u.n (coAd h.k) := hcs.bsrow (fun z hz => by
            obtain ⟨y, hy, rfl⟩ := List.mem_map.1 hz
            have := (unhide HZ8) y hy
            unfold maxLen
            rw [List.length_take]; omega)
          have huc : u.n ≤ u.c := by
            obtain ⟨_, es, _, h3, _, _⟩ := hcs
            rcases h3.2 with ⟨h', _⟩ | ⟨g, cap', cur, h', _, _, hnc, _⟩
            · simp only [Value.slice.injEq] at h'; omega
            · simp only [Value.slice.injEq] at h'; rw [h'.2.2]; exact hnc
          have DT := hasTwice_any u.a u.n u.c (coAd h.k) wr hub (by omega) huc
          rw [hun] at DT
          have HDT := hide DT
          have HUN2 := hide hun
          have kr := (unhide HKR) wr hbr
          have r0 := kr.cell 0
          have r1 := kr.cell 1
          have f0 := kr.free 0
          have f1 := kr.free 1
          simp only [List.getElem?_cons_zero, List.getElem?_cons_succ] at r0 r1
          have HCS := hide hcs
          have HBF := hide ((unhide HBB).trans (hbr.mono (by omega)))
          generalize twiceN (coAd h.k) h.k.length = tt at HDT HCC HAA
          obtain ⟨ua, uan, uac⟩ := u
          simp only at HUN2
          have hun := unhide HUN2
          subst hun
          clear et hcs hub huc DT kr hbr HUN2
          go_wp2_with fail
          refine (unhide HDT).mono ?_
          rintro e w7 ⟨rfl, rfl⟩
          cases tt
          · have HCV : Hid (CC = 0) := unhide HCC
            have HAV : Hid (AA = coAd h.k) := by show _ = _; rw [unhide HAA, if_pos (by simp)]
            clear HCC HAA
            go_wp2_with fail
            refine bodyPost_ret (v := .agg #[.int .i64 0, .slice ua h.k.length uac]) (by simp [results, Tryz.results172, go_sem, r0, r1]) rfl ⟨⟨ua, h.k.length, uac⟩, d, by rw [unhide HCV], ?_, ?_⟩
            · rw [unhide HAV]
              refine CS.base (B := w.heap.size + 2) ?_ (by omega)
              repeat (refine CS.set ?_ (by show w.heap.size + 1 < w.heap.size + 2; omega))
              exact unhide HCS
            · repeat (refine Below.setCell ?_ (by show w.heap.size ≤ w.heap.size + 1; omega) _)
              exact unhide HBF
          · have HCV : Hid (CC = 6) := unhide HCC
            have HAV : Hid (AA = []) := by show _ = _; rw [unhide HAA, if_neg (by simp)]
            clear HCC HAA
            go_wp2_with fail
            refine bodyPost_ret (v := .agg #[.int .i64 6, .slice none 0 0]) (by simp [results, Tryz.results172, go_sem, r0, r1]) rfl ⟨⟨none, 0, 0⟩, fun _ => 0, by rw [unhide HCV], by rw [unhide HAV]; exact CS.nil _ _ _ _ _, ?_⟩
            repeat (refine Below.setCell ?_ (by show w.heap.size ≤ w.heap.size + 1; omega) _)
            exact unhide HBF
  · have hne : (q != 0) = true := by simp [hq]
    have kr := (unhide HKR) w2 (unhide L2)
    have r0 := kr.cell 0
    have r1 := kr.cell 1
    have f0 := kr.free 0
    have f1 := kr.free 1
    simp only [List.getElem?_cons_zero, List.getElem?_cons_succ] at r0 r1
    have HCV : Hid (CC = q) := by show _ = _; rw [unhide HCC, if_neg hq]
    have HAV : Hid (AA = []) := by show _ = _; rw [unhide HAA, if_neg (fun z => hq z.1)]
    have HB2 := hide ((unhide HBB).trans ((unhide L2).mono (by omega)))
    clear hq kr HCC HAA HCK HKZ HUN
    go_wp2_with fail
    refine bodyPost_ret (v := .agg #[.int .i64 q, .slice none 0 0]) (by simp [results, Tryz.results172, go_sem, r0, r1]) rfl ⟨⟨none, 0, 0⟩, fun _ => 0, by rw [unhide HCV], by rw [unhide HAV]; exact CS.nil _ _ _ _ _, ?_⟩
    repeat (refine Below.setCell ?_ (by show w.heap.size ≤ w.heap.size + 1; omega) _)
    exact unhide HB2

end Go.Proofs.YtnmbdannipebnaaGreatDoor

/- What is proved here: the contracts of the laws' helper functions that mark a list or a header that a call made, and look for the marks later (markByteSS, markHeader, heldByteSS, heldHeader). -/
namespace Go.Proofs.YtnmbdannipebnaaGreatDoor
open Go.RowKit
set_option linter.unusedVariables false
set_option maxRecDepth 100000

end Go.Proofs.YtnmbdannipebnaaGreatDoor

/- What is proved here: the two cells of a SignersResult, and the contracts of the laws' helper functions over one (eqSignersResult, markSignersResult, heldSignersResult). -/
namespace Go.Proofs.YtnmbdannipebnaaGreatDoor
open Go.RowKit
set_option linter.unusedVariables false
set_option maxRecDepth 100000

/-- The two cells of a SignersResult. -/
def srvals (c : Int) (s : Sl) : Array Value := #[.int .i64 c, .slice s.a s.n s.c]

end Go.Proofs.YtnmbdannipebnaaGreatDoor
