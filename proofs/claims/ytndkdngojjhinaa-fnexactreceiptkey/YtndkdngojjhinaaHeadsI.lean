/- What is proved here: what the program's headsOf answers for items without a fault: the head of each, in new memory. -/
import Derived.Test.YtndkdngojjhinaaEncI
import Derived.Test.YtndkdngojjhinaaItV
import Derived.Test.YtndkdngojjhinaaInfo
import Derived.WalkLawsBesides
import Derived.WalkSmall
import Derived.Deep.RegionWith
import Derived.BigRegion
import Derived.Deep.DeepCutAuto
import Derived.Deep.CutBlock
namespace Go.Proofs.Ytndkdngojjhinaa
open Go.RowKit
set_option linter.unusedVariables false
set_option maxRecDepth 100000

theorem infoSl : (Try.prog.info? 28).map (fun i => (i.zero, i.size, i.bytes)) = some (some (.slice none 0 0), 1, 24) := by kernel_rfl
theorem info3 : (Try.prog.info? 3).map (fun i => (i.zero, i.size, i.bytes)) = some (some (.int .i64 0), 1, 8) := by kernel_rfl

/-- The head of the item at a place. -/
def hdAt (its : List It) (j : Nat) (it : It) : List Int := hdI it (cont hdI its j it).length

/-- The heads from place r on lie in the block gh. -/
def HdOk (w : World) (gh base : Nat) (its : List It) (r : Nat) (T : TypeId) : Prop :=
  ∃ hv : List Value, VBlk w gh hv T ∧ hv.length = its.length ∧ ∀ j it, r ≤ j → its[j]? = some it → ∃ a c, hv[j]? = some (.slice a (hdAt its j it).length c) ∧ w.ownsRow base 5 1 (.slice a (hdAt its j it).length c) (hdAt its j it).length ((hdAt its j it).map (Value.int .u8))

/-- What is in the items below r, of those from r on, lies in the block gw. -/
def WiOk (w : World) (gw : Nat) (its : List It) (r : Nat) (T : TypeId) : Prop :=
  ∃ ws : List Int, VBlk w gw (ws.map (Value.int .i64)) T ∧ ws.length = its.length ∧ ∀ i, i < r → i < its.length → ws[i]? = some ((eFrom hdI its i r).length : Int)

theorem HdOk.below {w w' : World} {gh base : Nat} {its : List It} {r : Nat} {T : TypeId} (h : HdOk w gh base its r T) {B : Nat} (hb : Below B w w') (hB : w.heap.size ≤ B) : HdOk w' gh base its r T := by
  obtain ⟨hv, h1, h2, h3⟩ := h
  refine ⟨hv, h1.below hb (Nat.lt_of_lt_of_le h1.lt hB), h2, fun j it hj hit => ?_⟩
  obtain ⟨a, c, q1, q2⟩ := h3 j it hj hit
  exact ⟨a, c, q1, own_below q2 hb hB⟩

theorem WiOk.below {w w' : World} {gw : Nat} {its : List It} {r : Nat} {T : TypeId} (h : WiOk w gw its r T) {B : Nat} (hb : Below B w w') (hB : w.heap.size ≤ B) : WiOk w' gw its r T := by
  obtain ⟨ws, h1, h2, h3⟩ := h
  exact ⟨ws, h1.below hb (Nat.lt_of_lt_of_le h1.lt hB), h2, h3⟩

theorem VBlk.other {w : World} {g g' i : Nat} {vs : List Value} {T : TypeId} {v : Value} (h : VBlk w g vs T) (hne : g ≠ g') : VBlk (w.setCell ⟨g', i, none⟩ v) g vs T := by
  unfold VBlk
  rw [heap_setCell_other w ⟨g', i, none⟩ g v hne]
  exact h

/-- One item more: what is in it is told, and its parent's is. -/
theorem WiOk.step {w' : World} {gw k : Nat} {its : List It} {T : TypeId} {it : It} {ws : List Int} (hU : UpOk its its.length) (hit : its[k]? = some it) (hl : ws.length = its.length) (hws : ∀ i, i < k + 1 → i < its.length → ws[i]? = some ((eFrom hdI its i (k + 1)).length : Int))
    (x y : Int) (hv : VBlk w' gw (((ws.set k x).set it.p.toNat y).map (Value.int .i64)) T) (hy : 0 < k → y = ((eFrom hdI its it.p.toNat k).length : Int)) (h0 : 0 < k) : WiOk w' gw its k T := by
  have hk := (List.getElem?_eq_some_iff.1 hit).1
  obtain ⟨_, u1⟩ := hU k it hk hit
  obtain ⟨p0, p1⟩ := u1 h0
  refine ⟨_, hv, by simp [hl], fun i hi hil => ?_⟩
  by_cases e : i = it.p.toNat
  · rw [e, List.getElem?_set_self (by simp; omega), hy h0]
  · rw [List.getElem?_set_ne (by omega), List.getElem?_set_ne (by omega), hws i (by omega) hil]
    unfold eFrom
    rw [kidsFrom_no (k := k) hk (by rw [pOf_some hit]; omega)]

theorem HdOk.step {w w' : World} {gh base k : Nat} {its : List It} {T : TypeId} {it : It} {a : Option Addr} {c : Nat} (h : HdOk w gh base its (k + 1) T) (hit : its[k]? = some it) (hb : Below w.heap.size w w') (hg : gh < base)
    (ho : w'.ownsRow base 5 1 (.slice a (hdAt its k it).length c) (hdAt its k it).length ((hdAt its k it).map (Value.int .u8))) :
    HdOk (w'.setCell ⟨gh, k, none⟩ (.slice a (hdAt its k it).length c)) gh base its k T := by
  have hk := (List.getElem?_eq_some_iff.1 hit).1
  obtain ⟨hv, h1, h2, h3⟩ := h.below hb (Nat.le_refl _)
  refine ⟨_, h1.set k _, by simp [h2], fun j jt hj hjt => ?_⟩
  by_cases e : j = k
  · subst e
    obtain rfl : jt = it := by rw [hit] at hjt; exact (Option.some.inj hjt).symm
    exact ⟨a, c, by rw [List.getElem?_set_self (by omega)], ownsRow_setCell_below ho hg _⟩
  · obtain ⟨a', c', q1, q2⟩ := h3 j jt (by omega) hjt
    exact ⟨a', c', by rw [List.getElem?_set_ne (by omega)]; exact q1, ownsRow_setCell_below q2 hg _⟩

theorem HdOk.stored {w : World} {gh base g i : Nat} {its : List It} {r : Nat} {T : TypeId} {v : Value} (h : HdOk w gh base its r T) (hne : gh ≠ g) (hg : g < base) : HdOk (w.setCell ⟨g, i, none⟩ v) gh base its r T := by
  obtain ⟨hv, h1, h2, h3⟩ := h
  refine ⟨hv, h1.other hne, h2, fun j it hj hit => ?_⟩
  obtain ⟨a, c, q1, q2⟩ := h3 j it hj hit
  exact ⟨a, c, q1, ownsRow_setCell_below q2 hg _⟩

set_option maxHeartbeats 8000000 in
theorem headsOf_any (a : Option Addr) (len cap : Nat) (its : List It) (N : NoFault its) (w : World) (h : ItRowN w a len its) :
    Calls Try.prog 33 #[.slice a len cap] w fun e w' => e = .returned (.slice (some ⟨w.heap.size, 0, none⟩) len len) ∧ HdOk w' w.heap.size (w.heap.size + 1) its 0 28 ∧ Below w.heap.size w w' := by
  obtain ⟨i0, hi, hz0, hz1, hz2⟩ := info_parts infoSl
  obtain ⟨j0, hj, hy0, hy1, hy2⟩ := info_parts info3
  have hlen := h.1.1
  have hl200 : len ≤ 200 := by rw [← hlen]; exact N.few
  have hl0 : 0 < len := by rw [← hlen]; exact N.some
  obtain ⟨b, off, rfl, hb, hat⟩ := h.at hl0
  have HAT := hide hat
  clear hat h
  go_enter Try.func33, Try.ntmps33
  go_wp2_with (at_make; refine wpList_make_full _ rfl _ _ 22 rfl w.heap.size 28 i0 (.slice none 0 0) 1 Try.underlying22 hi hz0 hz1 _ _ _ _ len rfl rfl rfl rfl ?c1 ?c2 ?c3 ?_)
  case c1 => rw [hz2]; omega
  case c2 => unfold maxLen; omega
  case c3 => omega
  intro w1 hown1 hgrow1
  obtain ⟨hv, hvb, hvl⟩ := own_vblk hown1
  have b1 : Below w.heap.size w w1 := (Below.refl _ _).grown hgrow1 (Nat.le_refl _) (fun k e => by cases e)
  have hgh : w.heap.size < w1.heap.size := hvb.lt
  clear hown1 hgrow1
  go_wp2_with (at_make; refine wpList_make_full _ rfl _ _ 56 rfl w1.heap.size 3 j0 (.int .i64 0) 1 Try.underlying56 hj hy0 hy1 _ _ _ _ len rfl rfl rfl rfl ?c1 ?c2 ?c3 ?_)
  case c1 => rw [hy2]; omega
  case c2 => unfold maxLen; omega
  case c3 => omega
  intro w2 hown2 hgrow2
  have b2 : Below w1.heap.size w1 w2 := (Below.refl _ _).grown hgrow2 (Nat.le_refl _) (fun k e => by cases e)
  have hvb2 := hvb.below b2 hgh
  have hw0 : WiOk w2 w1.heap.size its len 3 := by
    rcases hown2.2 with ⟨h', _⟩ | ⟨g', cap', cur, h', _, hg, hnc, hcm, hcs, htake⟩
    · simp at h'
    · simp only [Value.slice.injEq, Option.some.injEq, Addr.mk.injEq, and_true, true_and] at h'
      obtain ⟨rfl, rfl⟩ := h'
      have hcur : cur.toList = (List.replicate len (0 : Int)).map (Value.int .i64) := by
        have e := htake
        rw [List.take_of_length_le (by simp; omega)] at e
        rw [e]
        show (madeCells #[Value.int .i64 0] len).toList = _
        rw [toList_madeCells_one]
        simp
      refine ⟨List.replicate len 0, by unfold VBlk; rw [hg, ← hcur], by simp [hlen], fun i hi1 hi2 => ?_⟩
      have e0 : eFrom hdI its i len = [] := by unfold eFrom; rw [kidsFrom_end its _ len (by omega)]; rfl
      rw [e0, List.getElem?_replicate]
      simp [hi1]
  have hh0 : HdOk w2 w.heap.size (w1.heap.size + 1) its len 28 := ⟨hv, hvb2, by omega, fun j it hj1 hit => by have := (List.getElem?_eq_some_iff.1 hit).1; omega⟩
  have B2 := b1.trans (b2.mono b1.size)
  generalize w1.heap.size = gw at hw0 hh0 hgh
  have HW0 := hide hw0
  have HH0 := hide hh0
  have HB2 := hide B2
  clear hw0 hh0 B2 b1 b2 hvb hvb2 hvl hown2 hgrow2
  go_wp2_with fail
  go_loopw [5] (fun i wr => ∃ (r : Nat) (q : Int), r ≤ len ∧ q = (r : Int) - 1 ∧ i = .int .i64 q ∧ HdOk wr w.heap.size (gw + 1) its r 28 ∧ WiOk wr gw its r 3 ∧ Below w.heap.size w wr) (fun i _ => (intOf i + 1).toNat)
  case atStart => exact ⟨len, (len : Int) - 1, Nat.le_refl _, rfl, rfl, unhide HH0, unhide HW0, unhide HB2⟩
  case round =>
    obtain ⟨r, q, hr, hq, rfl, hHd, hWi, hbr⟩ := hrel
    clear HW0 HH0 HB2
    cases r with
    | zero =>
      obtain rfl : q = -1 := by omega
      clear hq
      have HH := hide hHd
      have HB := hide hbr
      clear hHd hWi hbr
      go_wp2_with fail
      go_ret
      refine ⟨rfl, ?_, unhide HB⟩
      obtain ⟨hv, q1, q2, q3⟩ := unhide HH
      refine ⟨hv, q1, q2, fun j it hj hit => ?_⟩
      obtain ⟨a, c, p1, p2⟩ := q3 j it hj hit
      exact ⟨a, c, p1, ownsRow_base p2 (by omega)⟩
    | succ k =>
      obtain rfl : q = (k : Int) := by omega
      clear hq
      obtain ⟨it, hit⟩ : ∃ it, its[k]? = some it := ⟨_, List.getElem?_eq_getElem (by omega)⟩
      obtain ⟨sa, sc, c0, c1, c2, hrow, hnil⟩ := (unhide HAT) k it hit
      have hbc := hbr.cell (p := ⟨b, off + k * 3, none⟩) hb
      have c0r := (hbr.cell (p := ⟨b, off + k * 3, none⟩) hb).trans c0
      have c1r := (hbr.cell (p := ⟨b, off + k * 3 + 1, none⟩) hb).trans c1
      have c2r := (hbr.cell (p := ⟨b, off + k * 3 + 2, none⟩) hb).trans c2
      obtain ⟨ws, hwv, hwl, hws⟩ := hWi
      have hwk := hws k (by omega) (by omega)
      have hE := eFrom_le hdI hdI_length N k (k + 1) (by omega) (by omega) (by omega)
      have hce := cont_eq hdI N.up hit
      have hcl : (cont hdI its k it).length = it.z.length + (eFrom hdI its k (k + 1)).length := by rw [hce, List.length_append]
      have hz3 := N.small it (List.mem_of_getElem? hit)
      have w0 : wr.cell? ⟨gw, k, none⟩ = some (.int .i64 ((eFrom hdI its k (k + 1)).length : Int)) := by rw [hwv.cell]; simp [hwk]
      have f0 := hwv.free k
      have i1 : (0 : Int) ≤ (k : Int) := by omega
      have i2 : (k : Int) < (len : Int) := by omega
      have HCL := hide hcl
      have HHD := hide hHd
      have HWV := hide hwv
      have HWS := hide hws
      have HB := hide hbr
      have HIT := hide hit
      have HROW := hide (hrow.below hbr (Nat.le_refl _))
      have HL := hide hlen
      have HWL := hide hwl
      obtain ⟨ek, hek⟩ : ∃ ek, ek = (eFrom hdI its k (k + 1)).length := ⟨_, rfl⟩
      obtain ⟨zl, hzl⟩ : ∃ zl, zl = it.z.length := ⟨_, rfl⟩
      rw [← hek] at w0 hE
      rw [← hzl] at c2r hz3
      have HEK := hide hek
      have HZL := hide hzl
      clear hcl hce hHd hwv hws hbr hit hrow hnil hlen hwl hwk c0 c1 c2 hbc hek hzl
      go_upto_region 6 with fail
      go_cut [5] (fun s wx => s = .int .i64 (k : Int) ∧ wx = (wr.setCell ⟨gw, k, none⟩ (.int .i64 ((ek : Int) + (zl : Int)))).drew)
      case first =>
        go_region
        go_wp2_with fail
        go_meet
        exact ⟨rfl, rfl⟩
      case rest =>
        obtain ⟨rfl, hwc⟩ := hcut
        have hsetb : Below w.heap.size w wc := by rw [hwc]; exact ((unhide HB).setCell (p := ⟨gw, k, none⟩) (by show w.heap.size ≤ gw; omega) _).drew
        have hgv : VBlk wc gw ((ws.set k ((ek : Int) + (zl : Int))).map (Value.int .i64)) 3 := by
          rw [hwc, List.map_set]; exact (unhide HWV).set k _
        have hhd : HdOk wc w.heap.size (gw + 1) its (k + 1) 28 := by
          rw [hwc]
          exact ((unhide HHD).stored (g := gw) (i := k) (by omega) (Nat.lt_succ_self _)).below (B := (wr.setCell ⟨gw, k, none⟩ (.int .i64 ((ek : Int) + (zl : Int)))).heap.size) ((Below.refl _ _).drew) (Nat.le_refl _)
        clear hwc w0 f0 c0r c1r c2r HWV HHD HB HROW
        obtain ⟨sa, sc, c0, c1, c2, hrow, hnil⟩ := (unhide HAT) k it (unhide HIT)
        have c0r := (hsetb.cell (p := ⟨b, off + k * 3, none⟩) hb).trans c0
        have c1r := (hsetb.cell (p := ⟨b, off + k * 3 + 1, none⟩) hb).trans c1
        have c2r := (hsetb.cell (p := ⟨b, off + k * 3 + 2, none⟩) hb).trans c2
        rw [← unhide HZL] at c2r
        have hkw : k < ws.length := by rw [unhide HWL]; exact (List.getElem?_eq_some_iff.1 (unhide HIT)).1
        have w0 : wc.cell? ⟨gw, k, none⟩ = some (.int .i64 ((ek : Int) + (zl : Int))) := by rw [hgv.cell]; simp [hkw]
        have hh : ∃ u, wc.cell? ⟨w.heap.size, k, none⟩ = some u := by
          obtain ⟨hv, q1, q2, _⟩ := hhd
          rw [q1.cell]
          exact ⟨_, List.getElem?_eq_getElem (by rw [q2, ← unhide HWL]; exact hkw)⟩
        obtain ⟨u0, hu0⟩ := hh
        have hf0 : wc.frozen? ⟨w.heap.size, k, none⟩ = false := by obtain ⟨hv, q1, _⟩ := hhd; exact q1.free k
        have hcn : (cont hdI its k it).length = ek + zl := by rw [unhide HCL, ← unhide HEK, ← unhide HZL]; omega
        have hleaf : it.l = false → ek + zl = it.z.length := fun hl => by
          have hk0 := N.leaf k it (unhide HIT) hl (k + 1)
          have : ek = 0 := by rw [unhide HEK]; unfold eFrom; rw [hk0]; rfl
          rw [this, ← unhide HZL]; omega
        have HC := hide (headOf_any it.l it.p sa it.z.length sc it.z (ek + zl) wc.drew ((hrow.below hsetb (Nat.le_refl _)).below (B := wc.heap.size) ((Below.refl _ _).drew) (Nat.le_refl _)) hleaf)
        have hda : hdI ⟨it.l, it.p, it.z⟩ (ek + zl) = hdAt its k it := by unfold hdAt; rw [hcn]
        rw [hda, ← unhide HZL] at HC
        have HSTEP := hide (fun (w' : World) (a : Option Addr) (c : Nat) (hb' : Below wc.heap.size wc w') (ho : w'.ownsRow (gw + 1) 5 1 (.slice a (hdAt its k it).length c) (hdAt its k it).length ((hdAt its k it).map (Value.int .u8))) => hhd.step (unhide HIT) hb' (by omega) ho)
        have hgwl : gw < wc.heap.size := hgv.lt
        have HGV := hide hgv
        have HB := hide hsetb
        have hhl : (hdAt its k it).length ≤ 8 := hdI_length _ _
        obtain ⟨hl8, hhl8⟩ : ∃ hl8, hl8 = (hdAt its k it).length := ⟨_, rfl⟩
        rw [← hhl8] at HC HSTEP hhl
        have HH8 := hide hhl8
        generalize it.l = il at c0r HC
        have e64 : (((ek + zl : Nat)) : Int) = (ek : Int) + (zl : Int) := by omega
        rw [e64] at HC
        clear hhd hgv hsetb c0 c1 c2 hrow hnil hda hcn hleaf hhl8 hkw
        go_upto_region 7 with fail
        go_cut [5] (fun s wx => s = .int .i64 (k : Int) ∧ HdOk wx w.heap.size (gw + 1) its k 28 ∧ VBlk wx gw ((ws.set k ((ek : Int) + (zl : Int))).map (Value.int .i64)) 3 ∧ Below w.heap.size w wx ∧ ∃ a' c', wx.cell? ⟨w.heap.size, k, none⟩ = some (.slice a' hl8 c'))
        case first =>
          go_region_with (first | (go_at_call 37; refine (unhide HC).mono ?_; rintro e w4 ⟨a4, c4, rfl, o4, b4⟩; have u4 := (b4.cell (p := ⟨w.heap.size, k, none⟩) (by show w.heap.size < wc.heap.size; omega)).trans hu0; have f4 := (b4.frozen (p := ⟨w.heap.size, k, none⟩) (by show w.heap.size < wc.heap.size; omega)).trans hf0))
          all_goals
            go_wp2_with fail
            go_meet
            have K4 : Below wc.heap.size wc w4 := ((Below.refl _ _).drew).trans b4
            refine ⟨rfl, (unhide HSTEP) w4 a4 c4 K4 (ownsRow_base (by rw [unhide HH8] at o4; rw [← unhide HH8] at o4; exact o4) (by show gw + 1 ≤ wc.heap.size; omega)), ((unhide HGV).below K4 hgwl).other (by omega), ((unhide HB).trans (K4.mono (unhide HB).size)).setCell (Nat.le_refl _) _, a4, c4, World.cell?_setCell_same' _ _ _ (by rw [u4]; rfl)⟩
        case rest =>
          obtain ⟨rfl, hHd2, hWv2, hb2, a4, c4, hc4⟩ := hcut
          clear hu0 hf0 w0 c0r c1r c2r HSTEP HGV HB HC hgwl
          have hkl : k < its.length := (List.getElem?_eq_some_iff.1 (unhide HIT)).1
          have HHD2 := hide hHd2
          have HB2 := hide hb2
          have HWV2 := hide hWv2
          have hw0 : wc.cell? ⟨gw, k, none⟩ = some (.int .i64 ((ek : Int) + (zl : Int))) := by rw [hWv2.cell]; simp [unhide HWL, hkl]
          by_cases k0 : k = 0
          · have dk : decide ((0 : Int) < (k : Int)) = false := decide_eq_false (by omega)
            have dk' : decide (0 < k) = false := decide_eq_false (by omega)
            have HK0 := hide k0
            clear hHd2 hWv2 hb2 hw0 hc4 k0
            go_wp2_with fail
            go_roundw
            case rel =>
              refine ⟨k, (k : Int) - 1, by omega, rfl, rfl, unhide HHD2, ⟨_, unhide HWV2, by rw [List.length_set]; exact unhide HWL, fun i hi => ?_⟩, unhide HB2⟩
              rw [unhide HK0] at hi
              exact absurd hi (Nat.not_lt_zero _)
            case measure => simp [intOf]
          · have dk : decide ((0 : Int) < (k : Int)) = true := decide_eq_true (by omega)
            obtain ⟨_, u1⟩ := N.up k it hkl (unhide HIT)
            obtain ⟨p0, p1⟩ := u1 (by omega)
            obtain ⟨q, hq⟩ : ∃ q : Nat, it.p = (q : Int) := ⟨it.p.toNat, by omega⟩
            have hqk : q < k := by omega
            have hqt : it.p.toNat = q := by omega
            obtain ⟨sa, sc, _, c1, _, _, _⟩ := (unhide HAT) k it (unhide HIT)
            rw [hq] at c1
            have c1r := (hb2.cell (p := ⟨b, off + k * 3 + 1, none⟩) hb).trans c1
            obtain ⟨eq_, heq⟩ : ∃ eq_, eq_ = (eFrom hdI its q (k + 1)).length := ⟨_, rfl⟩
            have hEq := eFrom_le hdI hdI_length N q (k + 1) (by omega) (by omega) (by omega)
            rw [← heq] at hEq
            have hwq : wc.cell? ⟨gw, q, none⟩ = some (.int .i64 (eq_ : Int)) := by
              rw [hWv2.cell, heq, List.getElem?_map, List.getElem?_set_ne (by omega), (unhide HWS) q (by omega) (by omega)]
              rfl
            have hfq := hWv2.free q
            have hsum : ((eFrom hdI its q k).length : Int) = (eq_ : Int) + ((hl8 : Int) + ((ek : Int) + (zl : Int))) := by
              have e1 : eFrom hdI its q k = enc hdI its k ++ eFrom hdI its q (k + 1) := by
                unfold eFrom
                rw [kidsFrom_yes hkl (by rw [pOf_some (unhide HIT)]; exact hq), List.flatMap_cons]
              rw [e1, List.length_append, enc_eq hdI N.up (unhide HIT), List.length_append, ← heq]
              have e2 : (hdI it (cont hdI its k it).length).length = hl8 := (unhide HH8).symm
              have e3 := unhide HCL
              rw [← unhide HEK, ← unhide HZL] at e3
              omega
            have HSUM := hide hsum
            have HQT := hide hqt
            have j1 : (0 : Int) ≤ (q : Int) := by omega
            have j2 : (q : Int) < (len : Int) := by omega
            have hne : q ≠ k := by omega
            clear hHd2 hWv2 hb2 hsum hqt heq c1 hq p0 p1
            go_upto_region 9 with fail
            have HRES : Hid (HdOk ((wc.setCell ⟨gw, q, none⟩ (.int .i64 ((eq_ : Int) + ((hl8 : Int) + ((ek : Int) + (zl : Int)))))).drew) w.heap.size (gw + 1) its k 28 ∧ WiOk ((wc.setCell ⟨gw, q, none⟩ (.int .i64 ((eq_ : Int) + ((hl8 : Int) + ((ek : Int) + (zl : Int)))))).drew) gw its k 3 ∧ Below w.heap.size w ((wc.setCell ⟨gw, q, none⟩ (.int .i64 ((eq_ : Int) + ((hl8 : Int) + ((ek : Int) + (zl : Int)))))).drew)) := by
              refine ⟨?_, ?_, ?_⟩
              · exact ((unhide HHD2).stored (g := gw) (i := q) (by omega) (Nat.lt_succ_self _)).below (B := (wc.setCell ⟨gw, q, none⟩ (.int .i64 ((eq_ : Int) + ((hl8 : Int) + ((ek : Int) + (zl : Int)))))).heap.size) ((Below.refl _ _).drew) (Nat.le_refl _)
              · refine WiOk.step N.up (unhide HIT) (unhide HWL) (unhide HWS) ((ek : Int) + (zl : Int)) ((eq_ : Int) + ((hl8 : Int) + ((ek : Int) + (zl : Int)))) ?_ (fun _ => ?_) (by omega)
                · rw [unhide HQT, List.map_set]
                  exact (unhide HWV2).set q _
                · rw [unhide HQT]; exact (unhide HSUM).symm
              · exact ((unhide HB2).setCell (p := ⟨gw, q, none⟩) (by show w.heap.size ≤ gw; omega) _).drew
            go_region
            all_goals
              clear hwq hfq c1r hw0 hc4
              go_wp2_with fail
              go_roundw
              case rel => exact ⟨k, (k : Int) - 1, by omega, rfl, rfl, (unhide HRES).1, (unhide HRES).2.1, (unhide HRES).2.2⟩
              case measure => simp [intOf]

end Go.Proofs.Ytndkdngojjhinaa
