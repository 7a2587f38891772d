/- What is proved here: what the model's l7Recents, l7Votes, l7Fault and SnapFault answer. -/
import Derived.Test.YtpkfgffgldjceaaDoorJ8
import Derived.Test.YtpkfgffgldjceaaDoorJ7
import Derived.Test.YtpkfgffgldjceaaDoorJ6
import Derived.Maps.RangeWalk
namespace Go.Proofs.YtpkfgffgldjceaaDoor
open Go.RowKit
set_option linter.unusedVariables false
set_option maxRecDepth 100000

theorem beq4' (n : Nat) : (n == 4) = (((n : Nat) : Int) == 4) := by
  rw [Bool.eq_iff_iff, beq_iff_eq, beq_iff_eq]
  omega

set_option maxHeartbeats 4000000 in
theorem l7Recents_any (g : Nat) (e : SnS) (x : Sn) (T : TypeId) (w : World) (sb : SBlk w g (snvals e x).toList T) (o : RowOk rcK w e.2.2.1 x.2.2.1) (hl : x.2.2.1.length ≤ 1048576) (hx : 0 ≤ x.1 ∧ x.1 ≤ 1099511627776) :
    Calls Tryd.prog 43 #[.pointer (some ⟨g, 0, none⟩)] w fun r w' => r = .returned (.int .i64 (rcFrom x.1 0 x.2.2.1)) ∧ ∃ n, w' = w.drewN n := by
  obtain ⟨ee, e1, ⟨a, len, cap⟩, e3⟩ := e
  obtain ⟨x0, x1, rs, x3⟩ := x
  have hil : len = rs.length := o.len
  have HR := hide (fun hp => RowOk.pos o hp)
  have HL := hide hil
  have hln : len ≤ 1048576 := by simp only at hl; omega
  have u0 := sb.cell 0
  have u2 := sb.cell 2
  simp only [snvals, List.getElem?_cons_zero, List.getElem?_cons_succ] at u0 u2
  simp only at HR hx
  clear o hil hl sb
  go_enter Tryd.func43, Tryd.ntmps43
  go_wp2_with fail
  have HU := hide (And.intro u0 u2)
  clear u0 u2
  go_loopw [3] (fun i wr => ∃ (k n : Nat) (L : Int), k ≤ len ∧ i = .int .i64 k ∧ 0 ≤ L ∧ L ≤ 1099511627777 ∧ (k = 0 → L = 0) ∧ (∀ j p, k = j + 1 → rs[j]? = some p → L = p.1 + 1) ∧ rcFrom x0 0 rs = rcFrom x0 L (rs.drop k) ∧ wr = w.drewN n) (fun i _ => len - (intOf i).toNat)
  case atStart => exact ⟨0, 0, 0, Nat.zero_le _, rfl, by omega, by omega, fun _ => rfl, fun j p h => by omega, by simp, rfl⟩
  case round =>
    obtain ⟨k, n, L, hk, rfl, hL0, hL1, hz, hs, hpre, hw⟩ := hrel
    have hbw : Below w.heap.size w wr := by rw [hw]; exact below_drewN (Below.refl _ _) n
    have q0 : wr.cell? ⟨g, 0, none⟩ = some (.int .i64 x0) := by rw [hw]; exact (unhide HU).1
    have q2 : wr.cell? ⟨g, 2, none⟩ = some (.slice a len cap) := by rw [hw]; exact (unhide HU).2
    have HW := hide hw
    clear hw
    by_cases hlt : k < len
    · obtain ⟨b, off, ea, hb, hc⟩ := (unhide HR) (by show 0 < len; omega)
      subst ea
      obtain ⟨v, hv⟩ : ∃ v, rs[k]? = some v := ⟨_, List.getElem?_eq_getElem (by rw [← unhide HL]; exact hlt)⟩
      obtain ⟨⟨⟨⟩, s⟩, c, oo⟩ := hc k v hv
      have hst := rcFrom_step x0 L rs k v hv
      obtain ⟨m, z⟩ := v
      have c0 := (hbw.cell (p := ⟨b, off + k * rcK.m + 0, none⟩) hb).trans (c 0 _ rfl)
      have c1 := (hbw.cell (p := ⟨b, off + k * rcK.m + 1, none⟩) hb).trans (c 1 _ rfl)
      simp only [Nat.add_zero, show rcK.m = 2 from rfl] at c0 c1
      have lz : z.length = s.n := oo.2.row.1
      have hone : rcOne x0 L (m, z) = if (((s.n : Nat) : Int) == 4) = false then 1 else if within m L x0 = false then 3 else 0 := by
        unfold rcOne
        rw [← beq4' s.n, ← lz]
      rw [hone] at hst
      have A1 := hide (fun W => l7Addr_any s.a s.n s.c W)
      have A2 := hide (fun W => in_any m 0 x0 W)
      have HST := hide (And.intro hpre hst)
      have i1 : (0 : Int) ≤ (k : Int) := by omega
      have i2 : (k : Int) < (len : Int) := by omega
      have i64m : in64 m := oo.1
      have HPV : Hid (∀ j p, k = j + 1 → rs[j]? = some p → wr.cell? ⟨b, off + j * 2, none⟩ = some (.int .i64 p.1)) := fun j p hj hp => by
        obtain ⟨⟨⟨⟩, s'⟩, c', _⟩ := hc j p hp
        have q := (hbw.cell (p := ⟨b, off + j * rcK.m + 0, none⟩) hb).trans (c' 0 _ rfl)
        simp only [Nat.add_zero, show rcK.m = 2 from rfl] at q
        exact q
      have HHS := hide (And.intro hz hs)
      have HV := hide hv
      clear hc c oo hst hpre hv hone lz hbw hz hs
      generalize (((s.n : Nat) : Int) == 4) = p1 at A1 HST
      go_wp2_with fail
      refine ((unhide A1) _).mono ?_
      rintro e w1 ⟨rfl, rfl⟩
      cases p1
      · have HE : Hid (rcFrom x0 0 rs = 1) := by show _ = _; rw [(unhide HST).1, (unhide HST).2]; simp
        go_wp2_with fail
        go_ret
        exact ⟨ret_int (unhide HE).symm, n, unhide HW⟩
      go_wp2_with fail
      by_cases hin : 0 ≤ m ∧ m ≤ x0
      case neg =>
        have hwi : within m L x0 = false := by unfold within; exact decide_eq_false (by omega)
        have HE : Hid (rcFrom x0 0 rs = 3) := by show _ = _; rw [(unhide HST).1, (unhide HST).2]; simp [hwi]
        rw [decide_eq_false hin] at A2
        clear HST HHS HPV
        go_quiet ((go_at_call 64; exact Calls.quiet_of_same ((unhide A2) _)))
        go_wp2_with fail
        go_ret
        exact ⟨ret_int (unhide HE).symm, _, by rw [unhide HW]; first | rfl | exact World.drewN_drewN ..⟩
      rw [decide_eq_true hin] at A2
      rcases Nat.eq_zero_or_pos k with hk0 | hkp
      · have hLz := (unhide HHS).1 hk0
        have hwi : within m L x0 = true := by unfold within; exact decide_eq_true (by omega)
        have h0 : decide ((0 : Int) < (k : Int)) = false := decide_eq_false (by omega)
        have h0' : decide (0 < k) = false := decide_eq_false (by omega)
        have hm1 : m + 1 ≤ 1099511627777 := by omega
        have HREL : Hid (∀ j p, k + 1 = j + 1 → rs[j]? = some p → m + 1 = p.1 + 1) := fun j p hj hp => by
          obtain rfl : k = j := by omega
          have := unhide HV
          rw [hp] at this
          cases this
          rfl
        clear HPV HHS hk0 hLz HV
        go_quiet ((go_at_call 64; exact Calls.quiet_of_same ((unhide A2) _)))
        go_wp2_with fail
        go_roundw
        case rel => exact ⟨k + 1, _, m + 1, by omega, by go_num, by omega, by omega, fun h => by omega, unhide HREL, by rw [(unhide HST).1, (unhide HST).2]; simp [hwi], by rw [unhide HW]; first | rfl | exact World.drewN_drewN ..⟩
        case measure => simp [intOf]; omega
      · obtain ⟨j, rfl⟩ : ∃ j, k = j + 1 := ⟨k - 1, by omega⟩
        obtain ⟨p, hp⟩ : ∃ p, rs[j]? = some p := ⟨_, List.getElem?_eq_getElem (by rw [← unhide HL]; omega)⟩
        have hLp := (unhide HHS).2 j p rfl hp
        have cp := (unhide HPV) j p rfl hp
        have h0 : decide ((0 : Int) < ((j + 1 : Nat) : Int)) = true := decide_eq_true (by omega)
        have h0' : decide (0 < j + 1) = true := decide_eq_true (by omega)
        have ws : IntKind.i64.wrap (((j + 1 : Nat) : Int) - 1) = (j : Int) := by rw [IntKind.wrap_i64]; omega
        have j1 : (0 : Int) ≤ (j : Int) := by omega
        have j2 : (j : Int) < (len : Int) := by omega
        clear HPV HHS hp
        generalize p.1 = pn at cp hLp
        obtain ⟨kk, ekk⟩ : ∃ kk : Nat, kk = j + 1 := ⟨_, rfl⟩
        rw [← ekk] at ws h0 h0' c0 c1 i1 i2 HST HV hlt hk ⊢
        by_cases hle : m ≤ pn
        · have hwi : within m L x0 = false := by unfold within; exact decide_eq_false (by omega)
          have HE : Hid (rcFrom x0 0 rs = 3) := by show _ = _; rw [(unhide HST).1, (unhide HST).2]; simp [hwi]
          have hd : decide (m ≤ pn) = true := decide_eq_true hle
          have EK := hide ekk
          clear ekk HST hLp hwi
          go_quiet ((go_at_call 64; exact Calls.quiet_of_same ((unhide A2) _)))
          go_wp2_with fail
          go_ret
          exact ⟨ret_int (unhide HE).symm, _, by rw [unhide HW]; first | rfl | exact World.drewN_drewN ..⟩
        · have hwi : within m L x0 = true := by unfold within; exact decide_eq_true (by omega)
          have hd : decide (m ≤ pn) = false := decide_eq_false hle
          have hLm : L ≤ m := by omega
          have HREL : Hid (∀ j p, kk + 1 = j + 1 → rs[j]? = some p → m + 1 = p.1 + 1) := fun j p hj hp => by
            obtain rfl : kk = j := by omega
            have := unhide HV
            rw [hp] at this
            cases this
            rfl
          have EK := hide ekk
          clear ekk hLp HV
          go_quiet ((go_at_call 64; exact Calls.quiet_of_same ((unhide A2) _)))
          go_wp2_with fail
          go_roundw
          case rel => exact ⟨kk + 1, _, m + 1, by omega, by go_num, by omega, by omega, fun h => by omega, unhide HREL, by rw [(unhide HST).1, (unhide HST).2]; simp [hwi], by rw [unhide HW]; first | rfl | exact World.drewN_drewN ..⟩
          case measure => have := unhide EK; simp [intOf]; omega
    · obtain rfl : k = len := by omega
      rw [List.drop_eq_nil_of_le (by rw [← unhide HL]; exact Nat.le_refl _)] at hpre
      have HE : Hid (rcFrom x0 0 rs = 0) := hpre
      clear hpre hbw
      go_wp2_with fail
      go_ret
      exact ⟨ret_int (unhide HE).symm, n, unhide HW⟩

set_option maxHeartbeats 4000000 in
theorem l7Votes_any (g : Nat) (e : SnS) (x : Sn) (T : TypeId) (w : World) (sb : SBlk w g (snvals e x).toList T) (o : RowOk vtK w e.2.2.2 x.2.2.2) (os : RowOk bytesK w e.2.1 x.2.1) (hl : x.2.2.2.length ≤ 1048576) (hl2 : x.2.1.length ≤ 1048576) :
    Calls Tryd.prog 44 #[.pointer (some ⟨g, 0, none⟩)] w fun r w' => r = .returned (.int .i64 (vtFrom x.2.1 x.2.2.2 0 x.2.2.2)) ∧ ∃ n, w' = w.drewN n := by
  have HVT := hide (fun (W : World) (hb : Below w.heap.size w W) (s t : Sl) (y z : List Int) (oy : BOk W s y) (oz : BOk W t z) => l7Vote_any g e x T s t y z W (sb.below hb sb.lt) (RowOk.below o hb (Nat.le_refl _)) oy oz hl)
  obtain ⟨ee, sS, e2, ⟨a, len, cap⟩⟩ := e
  obtain ⟨x0, sg, x2, vs⟩ := x
  have hil : len = vs.length := o.len
  have HR := hide (fun hp => RowOk.pos o hp)
  have HL := hide hil
  have HOS := hide os
  have hln : len ≤ 1048576 := by simp only at hl; omega
  have HSL := hide hl2
  have u1 := sb.cell 1
  have u3 := sb.cell 3
  simp only [snvals, List.getElem?_cons_zero, List.getElem?_cons_succ] at u1 u3
  simp only at HR HOS HVT HSL
  have HU := hide (And.intro u1 u3)
  clear o os hil hl hl2 sb
  go_enter Tryd.func44, Tryd.ntmps44
  go_wp2_with fail
  clear u1 u3
  go_loopw [3] (fun i wr => ∃ k n : Nat, k ≤ len ∧ i = .int .i64 k ∧ vtFrom sg vs 0 vs = vtFrom sg vs k (vs.drop k) ∧ wr = w.drewN n) (fun i _ => len - (intOf i).toNat)
  case atStart => exact ⟨0, 0, Nat.zero_le _, rfl, by simp, rfl⟩
  case round =>
    obtain ⟨k, n, hk, rfl, hpre, hw⟩ := hrel
    have hbw : Below w.heap.size w wr := by rw [hw]; exact below_drewN (Below.refl _ _) n
    have q1 : wr.cell? ⟨g, 1, none⟩ = some (.slice sS.a sS.n sS.c) := by rw [hw]; exact (unhide HU).1
    have q3 : wr.cell? ⟨g, 3, none⟩ = some (.slice a len cap) := by rw [hw]; exact (unhide HU).2
    have HW := hide hw
    clear hw
    by_cases hlt : k < len
    · obtain ⟨b, off, ea, hb, hc⟩ := (unhide HR) (by show 0 < len; omega)
      subst ea
      obtain ⟨v, hv⟩ : ∃ v, vs[k]? = some v := ⟨_, List.getElem?_eq_getElem (by rw [← unhide HL]; exact hlt)⟩
      obtain ⟨⟨s, t, ⟨⟩⟩, c, oo⟩ := hc k v hv
      have hst := vtFrom_step sg vs k v hv
      have hkv : (vtKeys vs)[k]? = some (v.1, v.2.1) := by unfold vtKeys; rw [List.getElem?_map, hv]; rfl
      have hat := atFrom_at (v.1, v.2.1) (vtKeys vs) 0 k hkv
      have htk : (vtKeys vs).take k = vtKeys (vs.take k) := by unfold vtKeys; rw [List.map_take]
      rw [htk] at hat
      obtain ⟨y, z, bb⟩ := v
      have c0 := (hbw.cell (p := ⟨b, off + k * vtK.m + 0, none⟩) hb).trans (c 0 _ rfl)
      have c1 := (hbw.cell (p := ⟨b, off + k * vtK.m + 1, none⟩) hb).trans (c 1 _ rfl)
      have c2 := (hbw.cell (p := ⟨b, off + k * vtK.m + 2, none⟩) hb).trans (c 2 _ rfl)
      simp only [Nat.add_zero, show vtK.m = 3 from rfl] at c0 c1 c2
      have oy := bytesK.below oo.1 hbw (Nat.le_refl _)
      have oz := bytesK.below oo.2.1 hbw (Nat.le_refl _)
      have ly : y.length = s.n := oy.row.1
      have lz : z.length = t.n := oz.row.1
      have hone : vtOne sg (vtKeys (vs.take k)) (y, z, bb) = if ((((s.n : Nat) : Int) == 4) && (((t.n : Nat) : Int) == 4)) = false then 1 else if decide (y ∈ sg) = false then 4 else if (bb == decide (z ∈ sg)) = true then 8 else if decide ((y, z) ∈ vtKeys (vs.take k)) = true then 6 else 0 := by
        unfold vtOne
        simp only [ly, lz, beq4']
      rw [hone] at hst
      have A1 := hide (fun W => l7Addr_any s.a s.n s.c W)
      have A2 := hide (fun W => l7Addr_any t.a t.n t.c W)
      have T1 := hide (fun (W : World) (hb : Below wr.heap.size wr W) => l7At_any sS s sg y W (RowOk.below (unhide HOS) (hbw.trans (hb.mono hbw.size)) (Nat.le_refl _)) (bytesK.below oy hb (Nat.le_refl _)) (unhide HSL))
      have T2 := hide (fun (W : World) (hb : Below wr.heap.size wr W) => l7At_any sS t sg z W (RowOk.below (unhide HOS) (hbw.trans (hb.mono hbw.size)) (Nat.le_refl _)) (bytesK.below oz hb (Nat.le_refl _)) (unhide HSL))
      have T3 := hide (fun (W : World) (hb : Below wr.heap.size wr W) => (unhide HVT) W (hbw.trans (hb.mono hbw.size)) s t y z (bytesK.below oy hb (Nat.le_refl _)) (bytesK.below oz hb (Nat.le_refl _)))
      have t1 : decide (atFrom y 0 sg < 0) = !decide (y ∈ sg) := by have h := atFrom_neg y sg 0; rw [h]; by_cases q : y ∈ sg <;> simp [q]
      have t2 : decide (atFrom z 0 sg < 0) = !decide (z ∈ sg) := by have h := atFrom_neg z sg 0; rw [h]; by_cases q : z ∈ sg <;> simp [q]
      have hat : (atFrom (y, z) 0 (vtKeys vs) == ((0 + k : Nat) : Int)) = !decide ((y, z) ∈ vtKeys (vs.take k)) := by rw [hat]; by_cases q : (y, z) ∈ vtKeys (vs.take k) <;> simp [q]
      have HST := hide (And.intro hpre hst)
      have i1 : (0 : Int) ≤ (k : Int) := by omega
      have i2 : (k : Int) < (len : Int) := by omega
      clear hc c oo hst hpre hv hone ly lz hbw oy oz hkv htk
      generalize (((s.n : Nat) : Int) == 4) = p1 at A1 HST
      generalize (((t.n : Nat) : Int) == 4) = p2 at A2 HST
      generalize atFrom y 0 sg = f1 at T1 t1
      generalize atFrom z 0 sg = f2 at T2 t2
      generalize atFrom (y, z) 0 (vtKeys vs) = f3 at T3 hat
      generalize decide (y ∈ sg) = m1 at t1 HST
      generalize decide (z ∈ sg) = m2 at t2 HST
      generalize decide ((y, z) ∈ vtKeys (vs.take k)) = m3 at hat HST
      have t2' : decide (0 ≤ f2) = m2 := by
        by_cases h : f2 < 0
        · rw [decide_eq_true h] at t2
          rw [decide_eq_false (by omega)]
          cases m2
          · rfl
          · exact absurd t2 (by decide)
        · rw [decide_eq_false h] at t2
          rw [decide_eq_true (by omega)]
          cases m2
          · exact absurd t2 (by decide)
          · rfl
      have hne : (f3 != (k : Int)) = m3 := by
        rw [Nat.zero_add] at hat
        unfold bne
        rw [hat]
        cases m3 <;> rfl
      clear t2 hat
      go_wp2_with fail
      refine ((unhide A1) _).mono ?_
      rintro e w1 ⟨rfl, rfl⟩
      cases p1
      · have HE : Hid (vtFrom sg vs 0 vs = 1) := by show _ = _; rw [(unhide HST).1, (unhide HST).2]; simp
        go_wp2_with fail
        go_ret
        exact ⟨ret_int (unhide HE).symm, n, unhide HW⟩
      go_wp2_with fail
      refine ((unhide A2) _).mono ?_
      rintro e w2 ⟨rfl, rfl⟩
      cases p2
      · have HE : Hid (vtFrom sg vs 0 vs = 1) := by show _ = _; rw [(unhide HST).1, (unhide HST).2]; simp
        go_wp2_with fail
        go_ret
        exact ⟨ret_int (unhide HE).symm, n, unhide HW⟩
      go_wp2_with fail
      cases m1
      · have HE : Hid (vtFrom sg vs 0 vs = 4) := by show _ = _; rw [(unhide HST).1, (unhide HST).2]; simp
        simp only [Bool.not_false] at t1
        go_quiet ((go_at_call 67; exact Calls.quiet_of_same ((unhide T1) _ (by first | exact below_drewN (below_drewN (below_drewN (Below.refl _ _) _) _) _ | exact below_drewN (below_drewN (Below.refl _ _) _) _ | exact below_drewN (Below.refl _ _) _))))
        go_wp2_with fail
        go_ret
        exact ⟨ret_int (unhide HE).symm, _, by rw [unhide HW]; simp only [World.drewN_drewN]; rfl⟩
      simp only [Bool.not_true] at t1
      go_quiet ((go_at_call 67; exact Calls.quiet_of_same ((unhide T1) _ (by first | exact below_drewN (below_drewN (below_drewN (Below.refl _ _) _) _) _ | exact below_drewN (below_drewN (Below.refl _ _) _) _ | exact below_drewN (Below.refl _ _) _))))
      go_wp2_with fail
      generalize hw3 : w2.drewN _ = W3
      have B3 : Hid (Below w2.heap.size w2 W3) := by show Below _ _ _; rw [← hw3]; exact below_drewN (Below.refl _ _) _
      replace q1 : W3.cell? ⟨g, 1, none⟩ = some (.slice sS.a sS.n sS.c) := by rw [← hw3]; exact q1
      replace q3 : W3.cell? ⟨g, 3, none⟩ = some (.slice (some ⟨b, off, none⟩) len cap) := by rw [← hw3]; exact q3
      replace c0 : W3.cell? ⟨b, off + k * 3, none⟩ = some (.slice s.a s.n s.c) := by rw [← hw3]; exact c0
      replace c1 : W3.cell? ⟨b, off + k * 3 + 1, none⟩ = some (.slice t.a t.n t.c) := by rw [← hw3]; exact c1
      replace c2 : W3.cell? ⟨b, off + k * 3 + 2, none⟩ = some (.bool bb) := by rw [← hw3]; exact c2
      have HW3 : Hid (∃ j, W3 = w.drewN j) := ⟨_, by rw [← hw3, unhide HW, World.drewN_drewN]⟩
      clear hw3
      cases m2 <;> cases bb
      · have HE : Hid (vtFrom sg vs 0 vs = 8) := by show _ = _; rw [(unhide HST).1, (unhide HST).2]; simp
        go_quiet ((go_at_call 67; exact Calls.quiet_of_same ((unhide T2) _ (below_drewN (unhide B3) _))))
        go_wp2_with fail
        go_ret
        obtain ⟨jj, hj⟩ := unhide HW3
        exact ⟨ret_int (unhide HE).symm, _, by rw [hj]; simp only [World.drewN_drewN]; rfl⟩
      · go_quiet ((go_at_call 67; exact Calls.quiet_of_same ((unhide T2) _ (below_drewN (unhide B3) _))))
        go_wp2_with fail
        generalize hw4 : W3.drewN _ = W4
        have B4 : Hid (Below w2.heap.size w2 W4) := by show Below _ _ _; rw [← hw4]; exact below_drewN (unhide B3) _
        replace q1 : W4.cell? ⟨g, 1, none⟩ = some (.slice sS.a sS.n sS.c) := by rw [← hw4]; exact q1
        replace q3 : W4.cell? ⟨g, 3, none⟩ = some (.slice (some ⟨b, off, none⟩) len cap) := by rw [← hw4]; exact q3
        replace c0 : W4.cell? ⟨b, off + k * 3, none⟩ = some (.slice s.a s.n s.c) := by rw [← hw4]; exact c0
        replace c1 : W4.cell? ⟨b, off + k * 3 + 1, none⟩ = some (.slice t.a t.n t.c) := by rw [← hw4]; exact c1
        replace c2 : W4.cell? ⟨b, off + k * 3 + 2, none⟩ = some (.bool true) := by rw [← hw4]; exact c2
        have HW4 : Hid (∃ j, W4 = w.drewN j) := (by obtain ⟨jj, hj⟩ := unhide HW3; exact ⟨_, by rw [← hw4, hj, World.drewN_drewN]⟩)
        clear hw4
        cases m3
        · go_quiet ((go_at_call 68; exact Calls.quiet_of_same ((unhide T3) _ (below_drewN (unhide B4) _))))
          go_wp2_with fail
          go_roundw
          case rel =>
            obtain ⟨jj, hj⟩ := unhide HW4
            exact ⟨k + 1, _, by omega, by go_num, by rw [(unhide HST).1, (unhide HST).2]; simp, by rw [hj]; simp only [World.drewN_drewN]; rfl⟩
          case measure => simp [intOf]; omega
        · have HE : Hid (vtFrom sg vs 0 vs = 6) := by show _ = _; rw [(unhide HST).1, (unhide HST).2]; simp
          go_quiet ((go_at_call 68; exact Calls.quiet_of_same ((unhide T3) _ (below_drewN (unhide B4) _))))
          go_wp2_with fail
          go_ret
          obtain ⟨jj, hj⟩ := unhide HW4
          exact ⟨ret_int (unhide HE).symm, _, by rw [hj]; simp only [World.drewN_drewN]; rfl⟩
      · go_quiet ((go_at_call 67; exact Calls.quiet_of_same ((unhide T2) _ (below_drewN (unhide B3) _))))
        go_wp2_with fail
        generalize hw4 : W3.drewN _ = W4
        have B4 : Hid (Below w2.heap.size w2 W4) := by show Below _ _ _; rw [← hw4]; exact below_drewN (unhide B3) _
        replace q1 : W4.cell? ⟨g, 1, none⟩ = some (.slice sS.a sS.n sS.c) := by rw [← hw4]; exact q1
        replace q3 : W4.cell? ⟨g, 3, none⟩ = some (.slice (some ⟨b, off, none⟩) len cap) := by rw [← hw4]; exact q3
        replace c0 : W4.cell? ⟨b, off + k * 3, none⟩ = some (.slice s.a s.n s.c) := by rw [← hw4]; exact c0
        replace c1 : W4.cell? ⟨b, off + k * 3 + 1, none⟩ = some (.slice t.a t.n t.c) := by rw [← hw4]; exact c1
        replace c2 : W4.cell? ⟨b, off + k * 3 + 2, none⟩ = some (.bool false) := by rw [← hw4]; exact c2
        have HW4 : Hid (∃ j, W4 = w.drewN j) := (by obtain ⟨jj, hj⟩ := unhide HW3; exact ⟨_, by rw [← hw4, hj, World.drewN_drewN]⟩)
        clear hw4
        cases m3
        · go_quiet ((go_at_call 68; exact Calls.quiet_of_same ((unhide T3) _ (below_drewN (unhide B4) _))))
          go_wp2_with fail
          go_roundw
          case rel =>
            obtain ⟨jj, hj⟩ := unhide HW4
            exact ⟨k + 1, _, by omega, by go_num, by rw [(unhide HST).1, (unhide HST).2]; simp, by rw [hj]; simp only [World.drewN_drewN]; rfl⟩
          case measure => simp [intOf]; omega
        · have HE : Hid (vtFrom sg vs 0 vs = 6) := by show _ = _; rw [(unhide HST).1, (unhide HST).2]; simp
          go_quiet ((go_at_call 68; exact Calls.quiet_of_same ((unhide T3) _ (below_drewN (unhide B4) _))))
          go_wp2_with fail
          go_ret
          obtain ⟨jj, hj⟩ := unhide HW4
          exact ⟨ret_int (unhide HE).symm, _, by rw [hj]; simp only [World.drewN_drewN]; rfl⟩
      · have HE : Hid (vtFrom sg vs 0 vs = 8) := by show _ = _; rw [(unhide HST).1, (unhide HST).2]; simp
        go_quiet ((go_at_call 67; exact Calls.quiet_of_same ((unhide T2) _ (below_drewN (unhide B3) _))))
        go_wp2_with fail
        go_ret
        obtain ⟨jj, hj⟩ := unhide HW3
        exact ⟨ret_int (unhide HE).symm, _, by rw [hj]; simp only [World.drewN_drewN]; rfl⟩
    · obtain rfl : k = len := by omega
      rw [List.drop_eq_nil_of_le (by rw [← unhide HL]; exact Nat.le_refl _)] at hpre
      have HE : Hid (vtFrom sg vs 0 vs = 0) := hpre
      clear hpre hbw
      go_wp2_with fail
      go_ret
      exact ⟨ret_int (unhide HE).symm, n, unhide HW⟩

end Go.Proofs.YtpkfgffgldjceaaDoor

/- What is proved here: what the model's l7List, l7Fault and SnapFault answer. -/
namespace Go.Proofs.YtpkfgffgldjceaaDoor
open Go.RowKit
set_option linter.unusedVariables false
set_option maxRecDepth 100000

set_option maxHeartbeats 4000000 in
theorem l7Fault_any (g : Nat) (e : SnS) (x : Sn) (T : TypeId) (w : World) (sb : SBlk w g (snvals e x).toList T) (o : SNK.Ok w e x) (m : SnSm x) :
    Calls Tryd.prog 19 #[.pointer (some ⟨g, 0, none⟩)] w fun r w' => r = .returned (.int .i64 (snFlt x)) ∧ ∃ n, w' = w.drewN n := by
  have D2 := hide (fun (n : Nat) (h : 0 ≤ x.1 ∧ x.1 ≤ 1099511627776) => l7Recents_any g e x T (w.drewN n) (sb.below (below_drewN (Below.refl w.heap.size w) n) sb.lt) (RowOk.below o.2.2.1 (below_drewN (Below.refl w.heap.size w) n) (Nat.le_refl _)) m.r h)
  have D3 := hide (fun (n : Nat) => l7Votes_any g e x T (w.drewN n) (sb.below (below_drewN (Below.refl w.heap.size w) n) sb.lt) (RowOk.below o.2.2.2 (below_drewN (Below.refl w.heap.size w) n) (Nat.le_refl _)) (RowOk.below o.2.1 (below_drewN (Below.refl w.heap.size w) n) (Nat.le_refl _)) m.v m.s)
  obtain ⟨ee0, e1, e2, e3⟩ := e
  obtain ⟨x0, x1, x2, x3⟩ := x
  have D0 := hide (fun W => l5Number_any x0 W)
  have D1 := hide (l7List_any e1 x1 w o.2.1 m.s)
  have l2 : e2.n = x2.length := o.2.2.1.len
  have l3 : e3.n = x3.length := o.2.2.2.len
  have c0 := sb.cell 0
  have c1 := sb.cell 1
  have c2 := sb.cell 2
  have c3 := sb.cell 3
  simp only [snvals, List.getElem?_cons_zero, List.getElem?_cons_succ] at c0 c1 c2 c3
  have HE : Hid (snFlt (x0, x1, x2, x3) = if within x0 0 1099511627776 = false then 3 else if sgSome x1 ≠ 0 then sgSome x1 else if 7 < e2.n ∨ 30 < e3.n then 2 else if rcFrom x0 0 x2 ≠ 0 then rcFrom x0 0 x2 else vtFrom x1 x3 0 x3) := by
    show _ = _
    rw [l2, l3]
    rfl
  have HW : Hid (within x0 0 1099511627776 = true → 0 ≤ x0 ∧ x0 ≤ 1099511627776) := fun h => by unfold within at h; simpa using h
  clear o m sb l2 l3
  simp only at D2 D3
  generalize snFlt (x0, x1, x2, x3) = r at HE ⊢
  generalize within x0 0 1099511627776 = p0 at D0 HE HW
  generalize sgSome x1 = p1 at D1 HE
  go_enter Tryd.func19, Tryd.ntmps19
  go_wp2_with fail
  refine ((unhide D0) _).mono ?_
  rintro e w1 ⟨rfl, rfl⟩
  cases p0
  · go_wp2_with fail
    go_ret
    exact ⟨ret_int (by rw [unhide HE]; simp), 0, rfl⟩
  go_wp2_with fail
  refine (unhide D1).mono ?_
  rintro e w2 ⟨rfl, n1, rfl⟩
  by_cases q1 : p1 = 0
  case neg =>
    have h1 : (p1 != 0) = true := by simp [q1]
    go_wp2_with fail
    go_ret
    exact ⟨ret_int (by rw [unhide HE]; simp [q1]), n1, rfl⟩
  subst q1
  have h1 : ((0 : Int) != 0) = false := by simp
  by_cases n2 : 7 < e2.n
  · have h2 : decide ((7 : Int) < (e2.n : Int)) = true := decide_eq_true (by omega)
    go_wp2_with fail
    go_ret
    exact ⟨ret_int (by rw [unhide HE]; simp [n2]), n1, rfl⟩
  have h2 : decide ((7 : Int) < (e2.n : Int)) = false := decide_eq_false (by omega)
  by_cases n3 : 30 < e3.n
  · have h3 : decide ((30 : Int) < (e3.n : Int)) = true := decide_eq_true (by omega)
    go_wp2_with fail
    go_ret
    exact ⟨ret_int (by rw [unhide HE]; simp [n3]), n1, rfl⟩
  have h3 : decide ((30 : Int) < (e3.n : Int)) = false := decide_eq_false (by omega)
  have HE2 : Hid (r = if rcFrom x0 0 x2 ≠ 0 then rcFrom x0 0 x2 else vtFrom x1 x3 0 x3) := by show _ = _; rw [unhide HE]; simp [n2, n3]
  have D2' := hide (fun n => (unhide D2) n ((unhide HW) (by simp)))
  clear HE D2
  generalize rcFrom x0 0 x2 = p2 at D2' HE2
  generalize vtFrom x1 x3 0 x3 = p3 at D3 HE2
  go_wp2_with fail
  refine ((unhide D2') _).mono ?_
  rintro e w3 ⟨rfl, n4, rfl⟩
  by_cases q4 : p2 = 0
  case neg =>
    have h4 : (p2 != 0) = true := by simp [q4]
    go_wp2_with fail
    go_ret
    exact ⟨ret_int (by rw [unhide HE2]; simp [q4]), _, by first | rfl | (simp only [World.drewN_drewN]; rfl)⟩
  subst q4
  go_wp2_with fail
  refine ((unhide D3) _).mono ?_
  rintro e w4 ⟨rfl, n5, rfl⟩
  go_wp2_with fail
  go_ret
  exact ⟨ret_int (by rw [unhide HE2]; simp), _, by first | rfl | (simp only [World.drewN_drewN]; rfl)⟩

end Go.Proofs.YtpkfgffgldjceaaDoor

/- What is proved here: what TurnOf answers, in the program and in the model. -/
namespace Go.Proofs.YtpkfgffgldjceaaDoor
open Go.RowKit
set_option linter.unusedVariables false
set_option maxRecDepth 100000

/-- The code of TurnOf, and what it tells. -/
def trCode (x : Sn) (z : List Int) (n : Int) : Int := if snFlt x ≠ 0 then snFlt x else if within n 0 1099511627776 = false then 3 else if decide (z ∈ x.2.1) = false then 4 else 0
def trVal (x : Sn) (z : List Int) (n : Int) : Int := if snFlt x ≠ 0 then 0 else if within n 0 1099511627776 = false then 0 else if decide (z ∈ x.2.1) = false then 0 else if (((plB x.2.1 z : Nat) : Int) == n % ((x.2.1.length : Nat) : Int)) = true then 2 else 1

theorem snFlt_sg {x : Sn} (h : snFlt x = 0) : sgFlt x.2.1 = 0 ∧ 0 < x.2.1.length ∧ x.2.1.length ≤ 7 := by
  unfold snFlt at h
  split at h
  · omega
  · split at h
    · omega
    · rename_i h1
      have h2 : sgSome x.2.1 = 0 := by simpa using h1
      unfold sgSome at h2
      split at h2
      · omega
      · exact ⟨h2, by omega, (sg_rise h2).1⟩

theorem two_sblk (w : World) (vs us : Array Value) (T S : TypeId) : SBlk ((w.alloc (.cells vs T)).alloc (.cells us S)) w.heap.size vs.toList T ∧ SBlk ((w.alloc (.cells vs T)).alloc (.cells us S)) (w.heap.size + 1) us.toList S ∧ Below w.heap.size w ((w.alloc (.cells vs T)).alloc (.cells us S)) := by
  refine ⟨(SBlk.new w vs T).next _, ?_, ((Below.refl _ _).alloc (Nat.le_refl _) _).alloc (by simp) _⟩
  have h := SBlk.new (w.alloc (.cells vs T)) us S
  rwa [show (w.alloc (.cells vs T)).heap.size = w.heap.size + 1 by simp] at h

end Go.Proofs.YtpkfgffgldjceaaDoor

/- What is proved here: what the model's l7Less answers: a copied snapshot without some votes. -/
namespace Go.Proofs.YtpkfgffgldjceaaDoor
open Go.RowKit
set_option linter.unusedVariables false
set_option maxRecDepth 100000

/-- Whether a vote stays. -/
def keepV (sg tg : List Int) (v : Vt) : Bool := (decide (0 < sg.length) && !decide (v.1 = sg)) || (decide (0 < tg.length) && !decide (v.2.1 = tg))
def lessSn (x : Sn) (sg tg : List Int) : Sn := (x.1, x.2.1, x.2.2.1, x.2.2.2.filter (keepV sg tg))

theorem filt_keep (za zb : List Int) (l : List Vt) (v : Vt) (h : keepV za zb v = true) : (l ++ [v]).filter (keepV za zb) = l.filter (keepV za zb) ++ [v] := by
  rw [List.filter_append]
  simp [h]
theorem filt_drop (za zb : List Int) (l : List Vt) (v : Vt) (h : keepV za zb v = false) : (l ++ [v]).filter (keepV za zb) = l.filter (keepV za zb) := by
  rw [List.filter_append]
  simp [h]

end Go.Proofs.YtpkfgffgldjceaaDoor

/- What is proved here: each key of the program's poll is two addresses; counts over votes. -/
namespace Go.Proofs.YtpkfgffgldjceaaDoor
open Go.RowKit
set_option linter.unusedVariables false
set_option maxRecDepth 100000

theorem u8_inv {d : Nat} {c : Value} {l : List Lit} (h : Tryd.prog.keyLits (d + 1) 5 [c] = some l) : ∃ z, c = .int .u8 z ∧ 0 ≤ z ∧ z ≤ 255 := by
  unfold Program.keyLits at h
  rw [Tryd.underlying5] at h
  cases c <;> simp at h
  rename_i q n
  obtain ⟨⟨rfl, hw⟩, _⟩ := h
  have e1 : IntKind.u8.min = 0 := rfl
  have e2 : IntKind.u8.max = 255 := rfl
  simp [Lit.wf, e1, e2] at hw
  exact ⟨n, rfl, hw.1, hw.2⟩

theorem addr_inv {d : Nat} {c0 c1 c2 c3 : Value} {l : List Lit} (h : Tryd.prog.keyLits (d + 2) 126 [c0, c1, c2, c3] = some l) : ∃ z0 z1 z2 z3, (c0 = .int .u8 z0 ∧ 0 ≤ z0 ∧ z0 ≤ 255) ∧ (c1 = .int .u8 z1 ∧ 0 ≤ z1 ∧ z1 ≤ 255) ∧ (c2 = .int .u8 z2 ∧ 0 ≤ z2 ∧ z2 ≤ 255) ∧ (c3 = .int .u8 z3 ∧ 0 ≤ z3 ∧ z3 ≤ 255) := by
  unfold Program.keyLits at h
  rw [Tryd.underlying126] at h
  simp only [cellsU8, cellsAddr] at h
  have e : List.range 4 = [0, 1, 2, 3] := rfl
  rw [e] at h
  simp [List.mapM_cons, Option.bind_eq_some_iff] at h
  obtain ⟨_, h0, _, ⟨_, h1, _, ⟨_, h2, _, ⟨_, h3, _⟩, _⟩, _⟩, _⟩ := h
  obtain ⟨z0, q0⟩ := u8_inv h0
  obtain ⟨z1, q1⟩ := u8_inv h1
  obtain ⟨z2, q2⟩ := u8_inv h2
  obtain ⟨z3, q3⟩ := u8_inv h3
  exact ⟨z0, z1, z2, z3, q0, q1, q2, q3⟩

theorem ballot_inv {d : Nat} {c0 c1 c2 c3 c4 c5 c6 c7 : Value} {l : List Lit} (h : Tryd.prog.keyLits (d + 3) 128 [c0, c1, c2, c3, c4, c5, c6, c7] = some l) :
    (∃ l', Tryd.prog.keyLits (d + 2) 126 [c0, c1, c2, c3] = some l') ∧ ∃ l', Tryd.prog.keyLits (d + 2) 126 [c4, c5, c6, c7] = some l' := by
  unfold Program.keyLits at h
  rw [Tryd.underlying128] at h
  simp [cellsBallot, cellsAddr, Option.bind_eq_some_iff] at h
  obtain ⟨_, h0, _, ⟨_, h1, _⟩, _⟩ := h
  exact ⟨⟨_, h0⟩, ⟨_, h1⟩⟩

/-- Each key is two addresses. -/
theorem key_inv {key : Value} {kl : Lit} (h : keyOf Tryd.prog 128 key = some kl) : ∃ z0 z1 z2 z3 y0 y1 y2 y3, key = .agg #[.int .u8 z0, .int .u8 z1, .int .u8 z2, .int .u8 z3, .int .u8 y0, .int .u8 y1, .int .u8 y2, .int .u8 y3] ∧ kl = klOf [z0, z1, z2, z3] [y0, y1, y2, y3] ∧ Adr [z0, z1, z2, z3] ∧ Adr [y0, y1, y2, y3] := by
  have h' := h
  unfold keyOf at h
  rw [Tryd.underlying128] at h
  simp only [Option.ite_none_right_eq_some, Bool.and_eq_true] at h
  obtain ⟨⟨_, hf⟩, hk⟩ := h
  cases key <;> simp [Value.formed, Tryd.underlying128] at hf
  rename_i cs
  rw [cellsBallot] at hf
  obtain ⟨l⟩ := cs
  have hl : l.length = 8 := by simpa using hf
  match l, hl with
  | [c0, c1, c2, c3, c4, c5, c6, c7], _ =>
    simp only [Value.cells, typesSize, Option.map_eq_some_iff] at hk
    obtain ⟨ls, hk, _⟩ := hk
    have hk2 : Tryd.prog.keyLits ((176 - 2) + 3) 128 [c0, c1, c2, c3, c4, c5, c6, c7] = some ls := hk
    obtain ⟨⟨_, a0⟩, ⟨_, a1⟩⟩ := ballot_inv hk2
    obtain ⟨z0, z1, z2, z3, ⟨rfl, r0⟩, ⟨rfl, r1⟩, ⟨rfl, r2⟩, ⟨rfl, r3⟩⟩ := addr_inv a0
    obtain ⟨y0, y1, y2, y3, ⟨rfl, t0⟩, ⟨rfl, t1⟩, ⟨rfl, t2⟩, ⟨rfl, t3⟩⟩ := addr_inv a1
    have e := keyOf_ballot r0 r1 r2 r3 t0 t1 t2 t3
    refine ⟨z0, z1, z2, z3, y0, y1, y2, y3, rfl, Option.some.inj (h'.symm.trans e), ⟨rfl, ?_⟩, ⟨rfl, ?_⟩⟩
    · intro x hx
      simp at hx
      rcases hx with rfl | rfl | rfl | rfl <;> assumption
    · intro x hx
      simp at hx
      rcases hx with rfl | rfl | rfl | rfl <;> assumption

/-- How many votes are on one. -/
def tlOf (t : List Int) (ks : List (List Int × List Int)) : Nat := (ks.filter (fun q => decide (q.2 = t))).length
/-- Of these, those that are no longer to come. -/
def tlCnt (t : List Int) (ks : List (List Int × List Int)) (left : Lit → Bool) : Nat := (ks.filter (fun q => decide (q.2 = t) && !left (klOf q.1 q.2))).length

theorem tlCnt_start {t : List Int} {ks : List (List Int × List Int)} {left : Lit → Bool} (h : ∀ q ∈ ks, left (klOf q.1 q.2) = true) : tlCnt t ks left = 0 := by
  unfold tlCnt
  rw [List.length_eq_zero_iff, List.filter_eq_nil_iff]
  intro q hq
  simp [h q hq]

theorem tlCnt_end {t : List Int} {ks : List (List Int × List Int)} {left : Lit → Bool} (h : ∀ kl, left kl = false) : tlCnt t ks left = tlOf t ks := by
  unfold tlCnt tlOf
  congr 1
  apply List.filter_congr
  intro q _
  simp [h]

theorem tlCnt_step (t a c : List Int) (left : Lit → Bool) (hl : left (klOf a c) = true) (hk : ∀ x : Lit, x.sameKey (klOf a c) = true ↔ x = klOf a c) (ha : Adr a) (hc : Adr c) : ∀ ks : List (List Int × List Int), ks.Nodup → (∀ q ∈ ks, Adr q.1 ∧ Adr q.2) →
    tlCnt t ks (fun z => left z && !z.sameKey (klOf a c)) = tlCnt t ks left + (if (a, c) ∈ ks ∧ c = t then 1 else 0)
  | [], _, _ => by simp [tlCnt]
  | q :: r, hn, hq => by
    have ih := tlCnt_step t a c left hl hk ha hc r (List.nodup_cons.1 hn).2 (fun x hx => hq x (by simp [hx]))
    have hn1 := (List.nodup_cons.1 hn).1
    unfold tlCnt at ih ⊢
    rw [List.filter_cons, List.filter_cons]
    by_cases e : q = (a, c)
    · subst e
      have hs : (klOf a c).sameKey (klOf a c) = true := (hk _).2 rfl
      have e1 : (decide ((a, c).2 = t) && !((fun z => left z && !z.sameKey (klOf a c)) (klOf (a, c).1 (a, c).2))) = decide (c = t) := by simp [hs]
      have e2 : (decide ((a, c).2 = t) && !left (klOf (a, c).1 (a, c).2)) = false := by simp [hl]
      rw [e1, e2]
      by_cases et : c = t
      · rw [decide_eq_true et, if_pos rfl, if_neg (by simp), if_pos ⟨by simp, et⟩, List.length_cons, ih, if_neg (fun h => hn1 h.1)]
      · rw [decide_eq_false et, if_neg (by simp), if_neg (by simp), if_neg (fun h => et h.2), ih, if_neg (fun h => et h.2)]
    · have hne : (klOf q.1 q.2).sameKey (klOf a c) = false := by
        rw [Bool.eq_false_iff]
        intro h
        have h1 := (hk _).1 h
        obtain ⟨e1, e2⟩ := klOf_inj (by rw [(hq q (by simp)).1.1, ha.1]) (hq q (by simp)).1.2 (hq q (by simp)).2.2 ha.2 hc.2 h1
        exact e (by rw [← e1, ← e2])
      have hm : ((a, c) ∈ q :: r) ↔ (a, c) ∈ r := by
        rw [List.mem_cons]
        exact ⟨fun h => h.elim (fun h => absurd h.symm e) id, .inr⟩
      simp only [hne, Bool.not_false, Bool.and_true, hm] at ih ⊢
      split
      · simp only [List.length_cons]
        omega
      · exact ih

end Go.Proofs.YtpkfgffgldjceaaDoor

/- What is proved here: what the program's pollOf and tally answer. -/
namespace Go.Proofs.YtpkfgffgldjceaaDoor
open Go.RowKit
set_option linter.unusedVariables false
set_option maxRecDepth 100000

theorem adr_range {a b c d : Int} (h : Adr [a, b, c, d]) : (0 ≤ a ∧ a ≤ 255) ∧ (0 ≤ b ∧ b ≤ 255) ∧ (0 ≤ c ∧ c ≤ 255) ∧ (0 ≤ d ∧ d ≤ 255) := ⟨h.2 a (by simp), h.2 b (by simp), h.2 c (by simp), h.2 d (by simp)⟩

/-- Two addresses are the same just where their bytes are. -/
theorem eqAddr {x0 x1 x2 x3 y0 y1 y2 y3 : Int} (hx : Adr [x0, x1, x2, x3]) (hy : Adr [y0, y1, y2, y3]) (w : World) :
    (Op.equalIn 10000 126 (.agg #[.int .u8 x0, .int .u8 x1, .int .u8 x2, .int .u8 x3]) (.agg #[.int .u8 y0, .int .u8 y1, .int .u8 y2, .int .u8 y3])).run Tryd.prog w = .ok (decide ([x0, x1, x2, x3] = [y0, y1, y2, y3])) w := by
  obtain ⟨a0, a1, a2, a3⟩ := adr_range hx
  obtain ⟨b0, b1, b2, b3⟩ := adr_range hy
  have hk : Tryd.prog.keyTypeAt 3 126 = true := by kernel_rfl
  have fm : ∀ c0 c1 c2 c3 : Value, (Value.agg #[c0, c1, c2, c3]).formed Tryd.prog 126 = true := fun c0 c1 c2 c3 => by simp [Value.formed, Tryd.underlying126, cellsAddr]
  obtain ⟨r, hr, hi⟩ := run_equalIn_deep 9997 3 126 hk w 2 2 _ _ _ _ (fm _ _ _ _) (fm _ _ _ _) (keyLits_addr 0 a0 a1 a2 a3) (keyLits_addr 0 b0 b1 b2 b3)
  have e : r = decide ([x0, x1, x2, x3] = [y0, y1, y2, y3]) := by
    rw [Bool.eq_iff_iff, hi]
    simp
  rw [← e]
  exact hr

/-- A key's eight bytes. -/
structure Key8 where
  (s0 s1 s2 s3 t0 t1 t2 t3 : Int)
/-- An element's parts. -/
structure Std2 where
  (n : Int)
  (b : Bool)
def Key8.val (x : Key8) : Value := .agg #[.int .u8 x.s0, .int .u8 x.s1, .int .u8 x.s2, .int .u8 x.s3, .int .u8 x.t0, .int .u8 x.t1, .int .u8 x.t2, .int .u8 x.t3]
def Std2.val (x : Std2) : Value := .agg #[.int .i64 x.n, .bool x.b]

end Go.Proofs.YtpkfgffgldjceaaDoor

/- What is proved here: what the model's count of votes answers; plain facts on votes without a fault. -/
namespace Go.Proofs.YtpkfgffgldjceaaDoor
open Go.RowKit
set_option linter.unusedVariables false
set_option maxRecDepth 100000

theorem vtFrom_all {sg : List (List Int)} {vs : List Vt} (h : vtFrom sg vs 0 vs = 0) : ∀ k, k ≤ vs.length → vtFrom sg vs k (vs.drop k) = 0
  | 0, _ => by simpa using h
  | k + 1, hk => by
    have ih := vtFrom_all h k (by omega)
    obtain ⟨v, hv⟩ : ∃ v, vs[k]? = some v := ⟨_, List.getElem?_eq_getElem (by omega)⟩
    rw [vtFrom_step sg vs k v hv] at ih
    split at ih
    · exact ih
    · rename_i hne
      exact absurd ih hne

theorem vtOne_all {sg : List (List Int)} {vs : List Vt} (h : vtFrom sg vs 0 vs = 0) (k : Nat) (v : Vt) (hv : vs[k]? = some v) : vtOne sg (vtKeys (vs.take k)) v = 0 := by
  have hk : k < vs.length := (List.getElem?_eq_some_iff.1 hv).1
  have ih := vtFrom_all h k (by omega)
  rw [vtFrom_step sg vs k v hv] at ih
  split at ih
  · assumption
  · exact ih

theorem vtKeys_nodup {sg : List (List Int)} {vs : List Vt} (h : vtFrom sg vs 0 vs = 0) : (vtKeys vs).Nodup := by
  have hk : ∀ k, k ≤ vs.length → (vtKeys (vs.take k)).Nodup := by
    intro k
    induction k with
    | zero => intro _; simp [vtKeys]
    | succ k ih =>
      intro hk
      obtain ⟨v, hv⟩ : ∃ v, vs[k]? = some v := ⟨_, List.getElem?_eq_getElem (by omega)⟩
      rw [vtKeys_snoc vs k v hv, List.nodup_append]
      refine ⟨ih (by omega), by simp, fun a ha b hb => ?_⟩
      rintro rfl
      simp only [List.mem_singleton] at hb
      subst hb
      exact (vtOne_zero (vtOne_all h k v hv)).2.2.2.2 ha
  have := hk vs.length (Nat.le_refl _)
  rwa [List.take_length] at this

theorem vt_four {sg : List (List Int)} {vs : List Vt} (h : vtFrom sg vs 0 vs = 0) : ∀ v ∈ vs, v.1.length = 4 ∧ v.2.1.length = 4 := by
  intro v hv
  obtain ⟨k, hk⟩ := List.getElem?_of_mem hv
  have h1 := vtOne_zero (vtOne_all h k v hk)
  exact ⟨h1.1, h1.2.1⟩

theorem snFlt_vt {x : Sn} (h : snFlt x = 0) : vtFrom x.2.1 x.2.2.2 0 x.2.2.2 = 0 ∧ x.2.2.2.length ≤ 30 := by
  unfold snFlt at h
  split at h
  · omega
  · split at h
    · rename_i h1
      exact absurd h h1
    · split at h
      · omega
      · rename_i h2
        split at h
        · rename_i h3
          exact absurd h h3
        · exact ⟨h, by omega⟩

theorem vt_adr {w : World} {s : Sl} {vs : List Vt} (o : RowOk vtK w s vs) (h : ∀ v ∈ vs, v.1.length = 4 ∧ v.2.1.length = 4) : ∀ q ∈ vtKeys vs, Adr q.1 ∧ Adr q.2 := by
  intro q hq
  unfold vtKeys at hq
  obtain ⟨v, hv, rfl⟩ := List.mem_map.1 hq
  have hlen : s.n = vs.length := o.len
  obtain ⟨b, off, ea, hb, hc⟩ := RowOk.pos o (by have := List.length_pos_of_mem hv; omega)
  obtain ⟨k, hk⟩ := List.getElem?_of_mem hv
  obtain ⟨⟨s0, s1, ⟨⟩⟩, c, oo⟩ := hc k v hk
  exact ⟨adr_of oo.1 (h v hv).1, adr_of oo.2.1 (h v hv).2⟩

theorem tlOf_snoc (t : List Int) (vs : List Vt) (k : Nat) (v : Vt) (h : vs[k]? = some v) : tlOf t (vtKeys (vs.take (k + 1))) = tlOf t (vtKeys (vs.take k)) + (if v.2.1 = t then 1 else 0) := by
  rw [vtKeys_snoc vs k v h]
  unfold tlOf
  rw [List.filter_append, List.length_append]
  by_cases e : v.2.1 = t <;> simp [e]

theorem tlOf_le (t : List Int) (vs : List Vt) : tlOf t (vtKeys vs) ≤ vs.length := by
  unfold tlOf
  exact Nat.le_trans (List.length_filter_le _ _) (by simp [vtKeys])

/-- The code of TallyOf, and what it tells. -/
def tyCode (x : Sn) (z : List Int) : Int := if snFlt x ≠ 0 then snFlt x else if (z.length == 4) = false then 1 else 0
def tlVal (x : Sn) (z : List Int) : Int := if snFlt x ≠ 0 then 0 else if (z.length == 4) = false then 0 else (tlOf z (vtKeys x.2.2.2) : Nat)

end Go.Proofs.YtpkfgffgldjceaaDoor
