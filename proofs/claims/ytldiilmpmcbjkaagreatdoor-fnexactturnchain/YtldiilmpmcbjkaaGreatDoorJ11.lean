/- What is proved here: what the program's headsOf answers for items without a fault: the head of each, in new memory. -/
import Derived.Test.YtldiilmpmcbjkaaGreatDoorJ10
import Derived.Test.YtldiilmpmcbjkaaGreatDoorJ1
import Derived.WalkLawsBesides
import Derived.WalkSmall
import Derived.Deep.RegionWith
import Derived.BigRegion
import Derived.Deep.DeepCutAuto
import Derived.Deep.CutBlock
import Derived.RangeFuncFrom
import Derived.RangeFuncLeaves
import Derived.Shelf.Abstract
import Derived.WalkKit
import Derived.OwnWalkIn
import Derived.TacticsInMore
import Derived.LoopNIn
import Derived.LoopIn
import Derived.Test.YtldiilmpmcbjkaaGreatDoorChecked
import Derived.Test.YtldiilmpmcbjkaaGreatDoorJ8
import Derived.KernelRfl
import Derived.WalkSpells
namespace Go.Proofs.YtldiilmpmcbjkaaGreatDoor
open Go.RowKit
set_option linter.unusedVariables false
set_option maxRecDepth 100000

theorem infoSl : (Tryz.prog.info? 60).map (fun i => (i.zero, i.size, i.bytes)) = some (some (.slice none 0 0), 1, 24) := by kernel_rfl
theorem info3 : (Tryz.prog.info? 3).map (fun i => (i.zero, i.size, i.bytes)) = some (some (.int .i64 0), 1, 8) := by kernel_rfl

/-- The head of the item at a place. -/
def hdAt (its : List It) (j : Nat) (it : It) : List Int := hdI it (cont hdI its j it).length

/-- The heads from place r on lie in the block gh. -/
def HdOk (w : World) (gh base : Nat) (its : List It) (r : Nat) (T : TypeId) : Prop :=
  ∃ hv : List Value, VBlk w gh hv T ∧ hv.length = its.length ∧ ∀ j it, r ≤ j → its[j]? = some it → ∃ a c, hv[j]? = some (.slice a (hdAt its j it).length c) ∧ w.ownsRow base 5 1 (.slice a (hdAt its j it).length c) (hdAt its j it).length ((hdAt its j it).map (Value.int .u8))

/-- What is in the items below r, of those from r on, lies in the block gw. -/
def WiOk (w : World) (gw : Nat) (its : List It) (r : Nat) (T : TypeId) : Prop :=
  ∃ ws : List Int, VBlk w gw (ws.map (Value.int .i64)) T ∧ ws.length = its.length ∧ ∀ i, i < r → i < its.length → ws[i]? = some ((eFrom hdI its i r).length : Int)

theorem HdOk.below {w w' : World} {gh base : Nat} {its : List It} {r : Nat} {T : TypeId} (h : HdOk w gh base its r T) {B : Nat} (hb : Below B w w') (hB : w.heap.size ≤ B) : HdOk w' gh base its r T := by
  obtain ⟨hv, h1, h2, h3⟩ := h
  refine ⟨hv, h1.below hb (Nat.lt_of_lt_of_le h1.lt hB), h2, fun j it hj hit => ?_⟩
  obtain ⟨a, c, q1, q2⟩ := h3 j it hj hit
  exact ⟨a, c, q1, own_below q2 hb hB⟩

theorem WiOk.below {w w' : World} {gw : Nat} {its : List It} {r : Nat} {T : TypeId} (h : WiOk w gw its r T) {B : Nat} (hb : Below B w w') (hB : w.heap.size ≤ B) : WiOk w' gw its r T := by
  obtain ⟨ws, h1, h2, h3⟩ := h
  exact ⟨ws, h1.below hb (Nat.lt_of_lt_of_le h1.lt hB), h2, h3⟩

theorem VBlk.other {w : World} {g g' i : Nat} {vs : List Value} {T : TypeId} {v : Value} (h : VBlk w g vs T) (hne : g ≠ g') : VBlk (w.setCell ⟨g', i, none⟩ v) g vs T := by
  unfold VBlk
  rw [heap_setCell_other w ⟨g', i, none⟩ g v hne]
  exact h

/-- One item more: what is in it is told, and its parent's is. -/
theorem WiOk.step {w' : World} {gw k : Nat} {its : List It} {T : TypeId} {it : It} {ws : List Int} (hU : UpOk its its.length) (hit : its[k]? = some it) (hl : ws.length = its.length) (hws : ∀ i, i < k + 1 → i < its.length → ws[i]? = some ((eFrom hdI its i (k + 1)).length : Int))
    (x y : Int) (hv : VBlk w' gw (((ws.set k x).set it.p.toNat y).map (Value.int .i64)) T) (hy : 0 < k → y = ((eFrom hdI its it.p.toNat k).length : Int)) (h0 : 0 < k) : WiOk w' gw its k T := by
  have hk := (List.getElem?_eq_some_iff.1 hit).1
  obtain ⟨_, u1⟩ := hU k it hk hit
  obtain ⟨p0, p1⟩ := u1 h0
  refine ⟨_, hv, by simp [hl], fun i hi hil => ?_⟩
  by_cases e : i = it.p.toNat
  · rw [e, List.getElem?_set_self (by simp; omega), hy h0]
  · rw [List.getElem?_set_ne (by omega), List.getElem?_set_ne (by omega), hws i (by omega) hil]
    unfold eFrom
    rw [kidsFrom_no (k := k) hk (by rw [pOf_some hit]; omega)]

theorem HdOk.step {w w' : World} {gh base k : Nat} {its : List It} {T : TypeId} {it : It} {a : Option Addr} {c : Nat} (h : HdOk w gh base its (k + 1) T) (hit : its[k]? = some it) (hb : Below w.heap.size w w') (hg : gh < base)
    (ho : w'.ownsRow base 5 1 (.slice a (hdAt its k it).length c) (hdAt its k it).length ((hdAt its k it).map (Value.int .u8))) :
    HdOk (w'.setCell ⟨gh, k, none⟩ (.slice a (hdAt its k it).length c)) gh base its k T := by
  have hk := (List.getElem?_eq_some_iff.1 hit).1
  obtain ⟨hv, h1, h2, h3⟩ := h.below hb (Nat.le_refl _)
  refine ⟨_, h1.set k _, by simp [h2], fun j jt hj hjt => ?_⟩
  by_cases e : j = k
  · subst e
    obtain rfl : jt = it := by rw [hit] at hjt; exact (Option.some.inj hjt).symm
    exact ⟨a, c, by rw [List.getElem?_set_self (by omega)], ownsRow_setCell_below ho hg _⟩
  · obtain ⟨a', c', q1, q2⟩ := h3 j jt (by omega) hjt
    exact ⟨a', c', by rw [List.getElem?_set_ne (by omega)]; exact q1, ownsRow_setCell_below q2 hg _⟩

theorem HdOk.stored {w : World} {gh base g i : Nat} {its : List It} {r : Nat} {T : TypeId} {v : Value} (h : HdOk w gh base its r T) (hne : gh ≠ g) (hg : g < base) : HdOk (w.setCell ⟨g, i, none⟩ v) gh base its r T := by
  obtain ⟨hv, h1, h2, h3⟩ := h
  refine ⟨hv, h1.other hne, h2, fun j it hj hit => ?_⟩
  obtain ⟨a, c, q1, q2⟩ := h3 j it hj hit
  exact ⟨a, c, q1, ownsRow_setCell_below q2 hg _⟩

set_option maxHeartbeats 8000000 in
theorem headsOf_any (a : Option Addr) (len cap : Nat) (its : List It) (N : NoFault its) (w : World) (h : ItRowN w a len its) :
    Calls Tryz.prog 130 #[.slice a len cap] w fun e w' => e = .returned (.slice (some ⟨w.heap.size, 0, none⟩) len len) ∧ HdOk w' w.heap.size (w.heap.size + 1) its 0 60 ∧ Below w.heap.size w w' := by
  obtain ⟨i0, hi, hz0, hz1, hz2⟩ := info_parts infoSl
  obtain ⟨j0, hj, hy0, hy1, hy2⟩ := info_parts info3
  have hlen := h.1.1
  have hl200 : len ≤ 200 := by rw [← hlen]; exact N.few
  have hl0 : 0 < len := by rw [← hlen]; exact N.some
  obtain ⟨b, off, rfl, hb, hat⟩ := h.at hl0
  have HAT := hide hat
  clear hat h
  go_enter Tryz.func130, Tryz.ntmps130
  go_wp2_with (at_make; refine wpList_make_full _ rfl _ _ 61 rfl w.heap.size 60 i0 (.slice none 0 0) 1 Tryz.underlying61 hi hz0 hz1 _ _ _ _ len rfl rfl rfl rfl ?c1 ?c2 ?c3 ?_)
  case c1 => rw [hz2]; omega
  case c2 => unfold maxLen; omega
  case c3 => omega
  intro w1 hown1 hgrow1
  obtain ⟨hv, hvb, hvl⟩ := own_vblk hown1
  have b1 : Below w.heap.size w w1 := (Below.refl _ _).grown hgrow1 (Nat.le_refl _) (fun k e => by cases e)
  have hgh : w.heap.size < w1.heap.size := hvb.lt
  clear hown1 hgrow1
  go_wp2_with (at_make; refine wpList_make_full _ rfl _ _ 178 rfl w1.heap.size 3 j0 (.int .i64 0) 1 Tryz.underlying178 hj hy0 hy1 _ _ _ _ len rfl rfl rfl rfl ?c1 ?c2 ?c3 ?_)
  case c1 => rw [hy2]; omega
  case c2 => unfold maxLen; omega
  case c3 => omega
  intro w2 hown2 hgrow2
  have b2 : Below w1.heap.size w1 w2 := (Below.refl _ _).grown hgrow2 (Nat.le_refl _) (fun k e => by cases e)
  have hvb2 := hvb.below b2 hgh
  have hw0 : WiOk w2 w1.heap.size its len 3 := by
    rcases hown2.2 with ⟨h', _⟩ | ⟨g', cap', cur, h', _, hg, hnc, hcm, hcs, htake⟩
    · simp at h'
    · simp only [Value.slice.injEq, Option.some.injEq, Addr.mk.injEq, and_true, true_and] at h'
      obtain ⟨rfl, rfl⟩ := h'
      have hcur : cur.toList = (List.replicate len (0 : Int)).map (Value.int .i64) := by
        have e := htake
        rw [List.take_of_length_le (by simp; omega)] at e
        rw [e]
        show (madeCells #[Value.int .i64 0] len).toList = _
        rw [toList_madeCells_one]
        simp
      refine ⟨List.replicate len 0, by unfold VBlk; rw [hg, ← hcur], by simp [hlen], fun i hi1 hi2 => ?_⟩
      have e0 : eFrom hdI its i len = [] := by unfold eFrom; rw [kidsFrom_end its _ len (by omega)]; rfl
      rw [e0, List.getElem?_replicate]
      simp [hi1]
  have hh0 : HdOk w2 w.heap.size (w1.heap.size + 1) its len 60 := ⟨hv, hvb2, by omega, fun j it hj1 hit => by have := (List.getElem?_eq_some_iff.1 hit).1; omega⟩
  have B2 := b1.trans (b2.mono b1.size)
  generalize w1.heap.size = gw at hw0 hh0 hgh
  have HW0 := hide hw0
  have HH0 := hide hh0
  have HB2 := hide B2
  clear hw0 hh0 B2 b1 b2 hvb hvb2 hvl hown2 hgrow2
  go_wp2_with fail
  go_loopw [5] (fun i wr => ∃ (r : Nat) (q : Int), r ≤ len ∧ q = (r : Int) - 1 ∧ i = .int .i64 q ∧ HdOk wr w.heap.size (gw + 1) its r 60 ∧ WiOk wr gw its r 3 ∧ Below w.heap.size w wr) (fun i _ => (intOf i + 1).toNat)
  case atStart => exact ⟨len, (len : Int) - 1, Nat.le_refl _, rfl, rfl, unhide HH0, unhide HW0, unhide HB2⟩
  case round =>
    obtain ⟨r, q, hr, hq, rfl, hHd, hWi, hbr⟩ := hrel
    clear HW0 HH0 HB2
    cases r with
    | zero =>
      obtain rfl : q = -1 := by omega
      clear hq
      have HH := hide hHd
      have HB := hide hbr
      clear hHd hWi hbr
      go_wp2_with fail
      go_ret
      refine ⟨rfl, ?_, unhide HB⟩
      obtain ⟨hv, q1, q2, q3⟩ := unhide HH
      refine ⟨hv, q1, q2, fun j it hj hit => ?_⟩
      obtain ⟨a, c, p1, p2⟩ := q3 j it hj hit
      exact ⟨a, c, p1, ownsRow_base p2 (by omega)⟩
    | succ k =>
      obtain rfl : q = (k : Int) := by omega
      clear hq
      obtain ⟨it, hit⟩ : ∃ it, its[k]? = some it := ⟨_, List.getElem?_eq_getElem (by omega)⟩
      obtain ⟨sa, sc, c0, c1, c2, hrow, hnil⟩ := (unhide HAT) k it hit
      have hbc := hbr.cell (p := ⟨b, off + k * 3, none⟩) hb
      have c0r := (hbr.cell (p := ⟨b, off + k * 3, none⟩) hb).trans c0
      have c1r := (hbr.cell (p := ⟨b, off + k * 3 + 1, none⟩) hb).trans c1
      have c2r := (hbr.cell (p := ⟨b, off + k * 3 + 2, none⟩) hb).trans c2
      obtain ⟨ws, hwv, hwl, hws⟩ := hWi
      have hwk := hws k (by omega) (by omega)
      have hE := eFrom_le hdI hdI_length N k (k + 1) (by omega) (by omega) (by omega)
      have hce := cont_eq hdI N.up hit
      have hcl : (cont hdI its k it).length = it.z.length + (eFrom hdI its k (k + 1)).length := by rw [hce, List.length_append]
      have hz3 := N.small it (List.mem_of_getElem? hit)
      have w0 : wr.cell? ⟨gw, k, none⟩ = some (.int .i64 ((eFrom hdI its k (k + 1)).length : Int)) := by rw [hwv.cell]; simp [hwk]
      have f0 := hwv.free k
      have i1 : (0 : Int) ≤ (k : Int) := by omega
      have i2 : (k : Int) < (len : Int) := by omega
      have HCL := hide hcl
      have HHD := hide hHd
      have HWV := hide hwv
      have HWS := hide hws
      have HB := hide hbr
      have HIT := hide hit
      have HROW := hide (hrow.below hbr (Nat.le_refl _))
      have HL := hide hlen
      have HWL := hide hwl
      obtain ⟨ek, hek⟩ : ∃ ek, ek = (eFrom hdI its k (k + 1)).length := ⟨_, rfl⟩
      obtain ⟨zl, hzl⟩ : ∃ zl, zl = it.z.length := ⟨_, rfl⟩
      rw [← hek] at w0 hE
      rw [← hzl] at c2r hz3
      have HEK := hide hek
      have HZL := hide hzl
      clear hcl hce hHd hwv hws hbr hit hrow hnil hlen hwl hwk c0 c1 c2 hbc hek hzl
      go_upto_region 6 with fail
      go_cut [5] (fun s wx => s = .int .i64 (k : Int) ∧ wx = (wr.setCell ⟨gw, k, none⟩ (.int .i64 ((ek : Int) + (zl : Int)))).drew)
      case first =>
        go_region
        go_wp2_with fail
        go_meet
        exact ⟨rfl, rfl⟩
      case rest =>
        obtain ⟨rfl, hwc⟩ := hcut
        have hsetb : Below w.heap.size w wc := by rw [hwc]; exact ((unhide HB).setCell (p := ⟨gw, k, none⟩) (by show w.heap.size ≤ gw; omega) _).drew
        have hgv : VBlk wc gw ((ws.set k ((ek : Int) + (zl : Int))).map (Value.int .i64)) 3 := by
          rw [hwc, List.map_set]; exact (unhide HWV).set k _
        have hhd : HdOk wc w.heap.size (gw + 1) its (k + 1) 60 := by
          rw [hwc]
          exact ((unhide HHD).stored (g := gw) (i := k) (by omega) (Nat.lt_succ_self _)).below (B := (wr.setCell ⟨gw, k, none⟩ (.int .i64 ((ek : Int) + (zl : Int)))).heap.size) ((Below.refl _ _).drew) (Nat.le_refl _)
        clear hwc w0 f0 c0r c1r c2r HWV HHD HB HROW
        obtain ⟨sa, sc, c0, c1, c2, hrow, hnil⟩ := (unhide HAT) k it (unhide HIT)
        have c0r := (hsetb.cell (p := ⟨b, off + k * 3, none⟩) hb).trans c0
        have c1r := (hsetb.cell (p := ⟨b, off + k * 3 + 1, none⟩) hb).trans c1
        have c2r := (hsetb.cell (p := ⟨b, off + k * 3 + 2, none⟩) hb).trans c2
        rw [← unhide HZL] at c2r
        have hkw : k < ws.length := by rw [unhide HWL]; exact (List.getElem?_eq_some_iff.1 (unhide HIT)).1
        have w0 : wc.cell? ⟨gw, k, none⟩ = some (.int .i64 ((ek : Int) + (zl : Int))) := by rw [hgv.cell]; simp [hkw]
        have hh : ∃ u, wc.cell? ⟨w.heap.size, k, none⟩ = some u := by
          obtain ⟨hv, q1, q2, _⟩ := hhd
          rw [q1.cell]
          exact ⟨_, List.getElem?_eq_getElem (by rw [q2, ← unhide HWL]; exact hkw)⟩
        obtain ⟨u0, hu0⟩ := hh
        have hf0 : wc.frozen? ⟨w.heap.size, k, none⟩ = false := by obtain ⟨hv, q1, _⟩ := hhd; exact q1.free k
        have hcn : (cont hdI its k it).length = ek + zl := by rw [unhide HCL, ← unhide HEK, ← unhide HZL]; omega
        have hleaf : it.l = false → ek + zl = it.z.length := fun hl => by
          have hk0 := N.leaf k it (unhide HIT) hl (k + 1)
          have : ek = 0 := by rw [unhide HEK]; unfold eFrom; rw [hk0]; rfl
          rw [this, ← unhide HZL]; omega
        have HC := hide (headOf_any it.l it.p sa it.z.length sc it.z (ek + zl) wc.drew ((hrow.below hsetb (Nat.le_refl _)).below (B := wc.heap.size) ((Below.refl _ _).drew) (Nat.le_refl _)) hleaf)
        have hda : hdI ⟨it.l, it.p, it.z⟩ (ek + zl) = hdAt its k it := by unfold hdAt; rw [hcn]
        rw [hda, ← unhide HZL] at HC
        have HSTEP := hide (fun (w' : World) (a : Option Addr) (c : Nat) (hb' : Below wc.heap.size wc w') (ho : w'.ownsRow (gw + 1) 5 1 (.slice a (hdAt its k it).length c) (hdAt its k it).length ((hdAt its k it).map (Value.int .u8))) => hhd.step (unhide HIT) hb' (by omega) ho)
        have hgwl : gw < wc.heap.size := hgv.lt
        have HGV := hide hgv
        have HB := hide hsetb
        have hhl : (hdAt its k it).length ≤ 8 := hdI_length _ _
        obtain ⟨hl8, hhl8⟩ : ∃ hl8, hl8 = (hdAt its k it).length := ⟨_, rfl⟩
        rw [← hhl8] at HC HSTEP hhl
        have HH8 := hide hhl8
        generalize it.l = il at c0r HC
        have e64 : (((ek + zl : Nat)) : Int) = (ek : Int) + (zl : Int) := by omega
        rw [e64] at HC
        clear hhd hgv hsetb c0 c1 c2 hrow hnil hda hcn hleaf hhl8 hkw
        go_upto_region 7 with fail
        go_cut [5] (fun s wx => s = .int .i64 (k : Int) ∧ HdOk wx w.heap.size (gw + 1) its k 60 ∧ VBlk wx gw ((ws.set k ((ek : Int) + (zl : Int))).map (Value.int .i64)) 3 ∧ Below w.heap.size w wx ∧ ∃ a' c', wx.cell? ⟨w.heap.size, k, none⟩ = some (.slice a' hl8 c'))
        case first =>
          go_region_with (first | (go_at_call 146; refine (unhide HC).mono ?_; rintro e w4 ⟨a4, c4, rfl, o4, b4⟩; have u4 := (b4.cell (p := ⟨w.heap.size, k, none⟩) (by show w.heap.size < wc.heap.size; omega)).trans hu0; have f4 := (b4.frozen (p := ⟨w.heap.size, k, none⟩) (by show w.heap.size < wc.heap.size; omega)).trans hf0))
          all_goals
            go_wp2_with fail
            go_meet
            have K4 : Below wc.heap.size wc w4 := ((Below.refl _ _).drew).trans b4
            refine ⟨rfl, (unhide HSTEP) w4 a4 c4 K4 (ownsRow_base (by rw [unhide HH8] at o4; rw [← unhide HH8] at o4; exact o4) (by show gw + 1 ≤ wc.heap.size; omega)), ((unhide HGV).below K4 hgwl).other (by omega), ((unhide HB).trans (K4.mono (unhide HB).size)).setCell (Nat.le_refl _) _, a4, c4, World.cell?_setCell_same' _ _ _ (by rw [u4]; rfl)⟩
        case rest =>
          obtain ⟨rfl, hHd2, hWv2, hb2, a4, c4, hc4⟩ := hcut
          clear hu0 hf0 w0 c0r c1r c2r HSTEP HGV HB HC hgwl
          have hkl : k < its.length := (List.getElem?_eq_some_iff.1 (unhide HIT)).1
          have HHD2 := hide hHd2
          have HB2 := hide hb2
          have HWV2 := hide hWv2
          have hw0 : wc.cell? ⟨gw, k, none⟩ = some (.int .i64 ((ek : Int) + (zl : Int))) := by rw [hWv2.cell]; simp [unhide HWL, hkl]
          by_cases k0 : k = 0
          · have dk : decide ((0 : Int) < (k : Int)) = false := decide_eq_false (by omega)
            have dk' : decide (0 < k) = false := decide_eq_false (by omega)
            have HK0 := hide k0
            clear hHd2 hWv2 hb2 hw0 hc4 k0
            go_wp2_with fail
            go_roundw
            case rel =>
              refine ⟨k, (k : Int) - 1, by omega, rfl, rfl, unhide HHD2, ⟨_, unhide HWV2, by rw [List.length_set]; exact unhide HWL, fun i hi => ?_⟩, unhide HB2⟩
              rw [unhide HK0] at hi
              exact absurd hi (Nat.not_lt_zero _)
            case measure => simp [intOf]
          · have dk : decide ((0 : Int) < (k : Int)) = true := decide_eq_true (by omega)
            obtain ⟨_, u1⟩ := N.up k it hkl (unhide HIT)
            obtain ⟨p0, p1⟩ := u1 (by omega)
            obtain ⟨q, hq⟩ : ∃ q : Nat, it.p = (q : Int) := ⟨it.p.toNat, by omega⟩
            have hqk : q < k := by omega
            have hqt : it.p.toNat = q := by omega
            obtain ⟨sa, sc, _, c1, _, _, _⟩ := (unhide HAT) k it (unhide HIT)
            rw [hq] at c1
            have c1r := (hb2.cell (p := ⟨b, off + k * 3 + 1, none⟩) hb).trans c1
            obtain ⟨eq_, heq⟩ : ∃ eq_, eq_ = (eFrom hdI its q (k + 1)).length := ⟨_, rfl⟩
            have hEq := eFrom_le hdI hdI_length N q (k + 1) (by omega) (by omega) (by omega)
            rw [← heq] at hEq
            have hwq : wc.cell? ⟨gw, q, none⟩ = some (.int .i64 (eq_ : Int)) := by
              rw [hWv2.cell, heq, List.getElem?_map, List.getElem?_set_ne (by omega), (unhide HWS) q (by omega) (by omega)]
              rfl
            have hfq := hWv2.free q
            have hsum : ((eFrom hdI its q k).length : Int) = (eq_ : Int) + ((hl8 : Int) + ((ek : Int) + (zl : Int))) := by
              have e1 : eFrom hdI its q k = enc hdI its k ++ eFrom hdI its q (k + 1) := by
                unfold eFrom
                rw [kidsFrom_yes hkl (by rw [pOf_some (unhide HIT)]; exact hq), List.flatMap_cons]
              rw [e1, List.length_append, enc_eq hdI N.up (unhide HIT), List.length_append, ← heq]
              have e2 : (hdI it (cont hdI its k it).length).length = hl8 := (unhide HH8).symm
              have e3 := unhide HCL
              rw [← unhide HEK, ← unhide HZL] at e3
              omega
            have HSUM := hide hsum
            have HQT := hide hqt
            have j1 : (0 : Int) ≤ (q : Int) := by omega
            have j2 : (q : Int) < (len : Int) := by omega
            have hne : q ≠ k := by omega
            clear hHd2 hWv2 hb2 hsum hqt heq c1 hq p0 p1
            go_upto_region 9 with fail
            have HRES : Hid (HdOk ((wc.setCell ⟨gw, q, none⟩ (.int .i64 ((eq_ : Int) + ((hl8 : Int) + ((ek : Int) + (zl : Int)))))).drew) w.heap.size (gw + 1) its k 60 ∧ WiOk ((wc.setCell ⟨gw, q, none⟩ (.int .i64 ((eq_ : Int) + ((hl8 : Int) + ((ek : Int) + (zl : Int)))))).drew) gw its k 3 ∧ Below w.heap.size w ((wc.setCell ⟨gw, q, none⟩ (.int .i64 ((eq_ : Int) + ((hl8 : Int) + ((ek : Int) + (zl : Int)))))).drew)) := by
              refine ⟨?_, ?_, ?_⟩
              · exact ((unhide HHD2).stored (g := gw) (i := q) (by omega) (Nat.lt_succ_self _)).below (B := (wc.setCell ⟨gw, q, none⟩ (.int .i64 ((eq_ : Int) + ((hl8 : Int) + ((ek : Int) + (zl : Int)))))).heap.size) ((Below.refl _ _).drew) (Nat.le_refl _)
              · refine WiOk.step N.up (unhide HIT) (unhide HWL) (unhide HWS) ((ek : Int) + (zl : Int)) ((eq_ : Int) + ((hl8 : Int) + ((ek : Int) + (zl : Int)))) ?_ (fun _ => ?_) (by omega)
                · rw [unhide HQT, List.map_set]
                  exact (unhide HWV2).set q _
                · rw [unhide HQT]; exact (unhide HSUM).symm
              · exact ((unhide HB2).setCell (p := ⟨gw, q, none⟩) (by show w.heap.size ≤ gw; omega) _).drew
            go_region
            all_goals
              clear hwq hfq c1r hw0 hc4
              go_wp2_with fail
              go_roundw
              case rel => exact ⟨k, (k : Int) - 1, by omega, rfl, rfl, (unhide HRES).1, (unhide HRES).2.1, (unhide HRES).2.2⟩
              case measure => simp [intOf]

end Go.Proofs.YtldiilmpmcbjkaaGreatDoor

/- What is proved here: the program's iterator over the way up from an item (wayUp), and its two callers (isUpFrom, deepOf): what they answer, and that nothing that lay before has turned. -/
namespace Go.Proofs.YtldiilmpmcbjkaaGreatDoor
open Go.RowKit Go.Shelf
set_option linter.unusedVariables false
set_option maxRecDepth 100000

attribute [local go_sem] Oper.semAt_some

/-- What a round of a loop over the way keeps: what lay below n0, and the cell of one block. -/
def KpW (n0 Bi : Nat) (W W' : World) : Prop := Below n0 W W' ∧ ∀ v, W.cell? ⟨Bi, 0, none⟩ = some v → W'.cell? ⟨Bi, 0, none⟩ = some v

theorem kpW_t {n0 Bi : Nat} {A B C : World} (h : KpW n0 Bi A B) (k : KpW n0 Bi B C) : KpW n0 Bi A C := ⟨h.1.trans k.1, fun v hv => k.2 v (h.2 v hv)⟩

theorem kpW_b {n0 Bi : Nat} {w : World} (hn : n0 ≤ w.heap.size) (W : World) (l : Nat) (o o' : Obj) (hl : w.heap.size ≤ l) (h : W.heap[l]? = some o) (hc : o.isCells = false) (hw : o.isWalk = false) : KpW n0 Bi W (W.putObj l o') :=
  ⟨belowK_b hn W l o o' hl h hc hw, fun v hv => cell_kept hv (grownBy_putObj' W l o') (fun r e => by cases e; exact ⟨_, h, hc⟩)⟩

theorem new_cell (W : World) (v : Value) (t : TypeId) : (W.alloc (.cells #[v] t)).cell? ⟨W.heap.size, 0, none⟩ = some v ∧ (W.alloc (.cells #[v] t)).frozen? ⟨W.heap.size, 0, none⟩ = false := by
  constructor <;> simp

theorem old_cell {W : World} {a : Addr} {v : Value} (o : Obj) (h : W.cell? a = some v) : (W.alloc o).cell? a = some v := cell_kept h (World.grownBy_alloc W o none) (fun r e => by cases e)
theorem old_free {W : World} {a : Addr} {v : Value} (o : Obj) (h : W.cell? a = some v) (hf : W.frozen? a = false) : (W.alloc o).frozen? a = false := (frozen_kept h (World.grownBy_alloc W o none) (fun r e => by cases e)).trans hf

set_option maxRecDepth 100000 in
set_option maxHeartbeats 2000000 in
theorem way1_in (F : Fence) (n : Nat) (hfn : F.fn 157) (hro : F.round = none) (hn : 1 ≤ n) (l Bf Bi : Nat) (from_ : Int) (a : Option Addr) (len cap : Nat) (its : List It) (xs : List Nat) (w0 : World) (hI : ItRow w0 a len its) (hl : len ≤ 1048576)
    (J Jx : List Nat → World → Prop)
    (hY : ∀ pre (x : Nat) W, J pre W → pre.length < xs.length → YieldAt F (n - 1) Tryz.prog l #[.int .i64 (x : Int)] W fun e W' =>
      (e = .returned (.bool true) ∧ J (pre ++ [x]) W' ∧ KpW w0.heap.size Bi W W') ∨ (e = .returned (.bool false) ∧ Jx (pre ++ [x]) W'))
    (W : World) (hB0 : Below w0.heap.size w0 W) (hBf : W.cell? ⟨Bf, 0, none⟩ = some (.int .i64 from_)) (hBi : W.cell? ⟨Bi, 0, none⟩ = some (.slice a len cap)) (hL : IsWay its from_ xs) (h0 : J [] W) :
    CallsIn F n Tryz.prog 157 #[.func (.yield l) #[] #[], .pointer (some ⟨Bf, 0, none⟩), .pointer (some ⟨Bi, 0, none⟩)] W fun e W' => (∃ v, e = .returned v) ∧
      ((∃ ys, ys = xs ∧ J ys W') ∨ (∃ pre, pre <+: xs ∧ Jx pre W')) := by
  have HI := hide hI
  have HL := hide hL
  clear hI hL
  refine callsIn_of_wp Tryz.func157 rfl hfn ?_ hro
  simp only [Tryz.ntmps157, List.size_toArray, List.length_cons, List.length_nil, Nat.reduceAdd, Nat.reduceSub, Array.replicate_succ, Array.replicate_zero, List.push_toArray, List.append_toArray, List.nil_append, List.cons_append]
  gi_wp2
  gi_loopw [4] (fun p wr => ∃ (pre rest : List Nat) (q : Int), p = .int .i64 q ∧ xs = pre ++ rest ∧ IsWay its q rest ∧ Below w0.heap.size w0 wr ∧ wr.cell? ⟨Bi, 0, none⟩ = some (.slice a len cap) ∧ J pre wr)
    (fun p wr => (intOf p + 1).toNat)
  case atStart =>
    exact ⟨[], xs, from_, rfl, rfl, unhide HL, hB0, hBi, h0⟩
  case round =>
    obtain ⟨pre, rest, q, rfl, hx, hw, hb, hbi, hJs⟩ := hrel
    clear hB0 hBf hBi h0 HL
    cases rest with
    | nil =>
      obtain rfl : q = -1 := hw
      gi_wp2
      go_end0
      exact ⟨⟨_, rfl⟩, .inl ⟨pre, by simp [hx], hJs⟩⟩
    | cons k rest =>
      obtain ⟨rfl, it, hit, hge, hlt, hr⟩ := hw
      have hkl : k < len := by rw [← (unhide HI).1]; exact (List.getElem?_eq_some_iff.1 hit).1
      obtain ⟨b, off, rfl, hbl, hat⟩ := (unhide HI).at (by omega)
      obtain ⟨sa, sl, sc, c0, c1, c2, _⟩ := hat k it hit
      obtain ⟨fn, tmps, assign, body, hy, hR⟩ := hY pre k wr hJs (by rw [hx]; simp)
      have hne : (((k : Nat) : Int) != -1) = true := by simp
      have HX := hide hx
      have HR := hide hr
      have HJ := hide hJs
      clear hx hr hJs hat
      gi_wp2
      refine hR.mono ?_
      rintro e W3 (⟨rfl, hJ3, hk3⟩ | ⟨rfl, hJx3⟩)
      · have hb3 : Below w0.heap.size w0 W3 := hb.trans hk3.1
        have hbi3 := hk3.2 _ hbi
        have hp3 : W3.cell? ⟨b, off + k * 3 + 1, none⟩ = some (.int .i64 it.p) := (hb3.cell (p := ⟨b, off + k * 3 + 1, none⟩) hbl).trans c1
        have i1 : (0 : Int) ≤ (k : Int) := by omega
        have i2 : (k : Int) < (len : Int) := by omega
        have HJ3 := hide hJ3
        have HB3 := hide hb3
        generalize it.p = pp at hp3 hge hlt HR
        clear hJ3 hb3 hk3 c0 c1 c2 hbi hb
        gi_wp2
        go_roundw
        case rel => exact ⟨pre ++ [k], rest, pp, rfl, by rw [unhide HX]; simp, unhide HR, unhide HB3, hbi3, unhide HJ3⟩
        case measure => simp [intOf]; omega
      · gi_wp2
        refine bodyPost_ret (results_none rfl _ _ _) rfl ?_
        exact ⟨⟨_, rfl⟩, .inr ⟨pre ++ [k], ⟨rest, by rw [unhide HX]; simp⟩, hJx3⟩⟩

set_option maxHeartbeats 1000000 in
theorem wayUp_in (F : Fence) (n : Nat) (hfn : F.fn 155) (hro : F.round = none) (a : Option Addr) (len cap : Nat) (from_ : Int) (w : World) :
    CallsIn F n Tryz.prog 155 #[.slice a len cap, .int .i64 from_] w fun e w' => e = .returned (.func (.func 157) #[] #[.pointer (some ⟨w.heap.size + 1, 0, none⟩), .pointer (some ⟨w.heap.size, 0, none⟩)]) ∧ w' = (w.alloc (.cells #[.slice a len cap] 148)).alloc (.cells #[.int .i64 from_] 2) := by
  refine callsIn_of_wp Tryz.func155 rfl hfn ?_ hro
  simp only [Tryz.ntmps155, List.size_toArray, List.length_cons, List.length_nil, Nat.reduceAdd, Nat.reduceSub, Array.replicate_succ, Array.replicate_zero, List.push_toArray, List.append_toArray, List.nil_append, List.cons_append]
  gi_wp2
  go_ret
  exact ⟨rfl, rfl⟩

theorem way_stops (F : Fence) (n : Nat) (hfn : F.fn 157) (hro : F.round = none) (hn : 1 ≤ n) (Bf Bi : Nat) (from_ : Int) (a : Option Addr) (len cap : Nat) (its : List It) (xs : List Nat) (w0 w : World) (hI : ItRow w0 a len its) (hl : len ≤ 1048576)
    (hb : Below w0.heap.size w0 w) (hBf : Bf < w.heap.size) (hBi : Bi < w.heap.size) (cf : w.cell? ⟨Bf, 0, none⟩ = some (.int .i64 from_)) (ci : w.cell? ⟨Bi, 0, none⟩ = some (.slice a len cap)) (hL : IsWay its from_ xs) :
    SeqStopsK F n Tryz.prog 157 #[.pointer (some ⟨Bf, 0, none⟩), .pointer (some ⟨Bi, 0, none⟩)] (fun x : Nat => #[Value.int .i64 (x : Int)]) (KpW w0.heap.size Bi) (fun ys => ys = xs) (fun pre => pre <+: xs) xs.length w := fun l J Jx W hW _ _ hY h0 =>
  way1_in F n hfn hro hn l Bf Bi from_ a len cap its xs w0 hI hl J Jx hY W (hb.trans (hW.mono hb.size)) ((hW.cell (p := ⟨Bf, 0, none⟩) hBf).trans cf) ((hW.cell (p := ⟨Bi, 0, none⟩) hBi).trans ci) hL h0

set_option maxRecDepth 100000 in
set_option maxHeartbeats 2000000 in
theorem deepOf_in (F : Fence) (n : Nat) (hf1 : F.fn 152) (hf2 : F.fn 155) (hf3 : F.fn 157) (hro : F.round = none) (hn : 3 ≤ n) (a : Option Addr) (len cap : Nat) (its : List It) (from_ : Int) (xs : List Nat) (w : World)
    (hI : ItRow w a len its) (hl : len ≤ 1048576) (hL : IsWay its from_ xs) (hxl : xs.length ≤ 2097152) :
    CallsIn F n Tryz.prog 152 #[.slice a len cap, .int .i64 from_] w fun e W' => e = .returned (.int .i64 (xs.length : Int)) ∧ Below w.heap.size w W' := by
  have h1 : 1 ≤ n := by omega
  refine callsIn_of_wp_marks Tryz.func152 rfl hf1 ?_ hro
  simp only [Tryz.ntmps152, List.size_toArray, List.length_cons, List.length_nil, Nat.reduceAdd, Nat.reduceSub, Array.replicate_succ, Array.replicate_zero, List.push_toArray, List.append_toArray, List.nil_append, List.cons_append]
  gi_wp2_with (gi_at_call 155; refine (wayUp_in F (n - 1) hf2 hro _ _ _ _ _).mono ?_; rintro e w' ⟨rfl, rfl⟩)
  have c0 := new_cell w (.int .i64 0) 2
  have c1 := new_cell (w.alloc (.cells #[.int .i64 0] 2)) (.slice a len cap) 148
  have c2 := new_cell ((w.alloc (.cells #[.int .i64 0] 2)).alloc (.cells #[.slice a len cap] 148)) (.int .i64 from_) 2
  simp only [World.size_alloc] at c1 c2
  have hB0 : Below w.heap.size w (((w.alloc (.cells #[.int .i64 0] 2)).alloc (.cells #[.slice a len cap] 148)).alloc (.cells #[.int .i64 from_] 2)) := (((Below.refl _ w).alloc (Nat.le_refl _) _).alloc (by simp) _).alloc (by simp; omega) _
  refine wpIn_rangeFunc_ownF hro h1 (gf := 157) (lb := #[.pointer (some ⟨w.heap.size + 1 + 1, 0, none⟩), .pointer (some ⟨w.heap.size + 1, 0, none⟩)]) rfl hf3 (enters_of Tryz.func157 (by kernel_rfl) rfl)
    (way_stops F (n - 1) hf3 hro (by omega) (w.heap.size + 1 + 1) (w.heap.size + 1) from_ a len cap its xs w _ hI hl hB0 (by simp) (by simp) c2.1 (old_cell _ c1.1) hL) kpW_t (kpW_b (by simp; omega)) (Below.refl _ _) (fun _ => rfl)
    (fun pre W => (W.cell? ⟨w.heap.size, 0, none⟩ = some (.int .i64 (pre.length : Int)) ∧ W.frozen? ⟨w.heap.size, 0, none⟩ = false) ∧ Below w.heap.size w W)
    (fun _ _ _ => False)
    (OwnFrom.and (Own.from (fun s A B row hs hg hr => ⟨cell_kept hs.1 hg hr, (frozen_kept hs.1 hg hr).trans hs.2⟩) _) (ownFrom_below (Nat.le_refl _) (by simp; omega)))
    (fun _ _ _ _ _ hs _ _ => hs)
    ⟨⟨old_cell _ (old_cell _ c0.1), old_free _ (old_cell _ c0.1) (old_free _ c0.1 c0.2)⟩, hB0⟩
    (fun x => { tmps := #[.slice a len cap, .int .i64 from_, undef, undef, .int .i64 0, .pointer (some ⟨w.heap.size, 0, none⟩), .slice a len cap, .int .i64 from_, .func (.func 157) #[] #[.pointer (some ⟨w.heap.size + 1 + 1, 0, none⟩), .pointer (some ⟨w.heap.size + 1, 0, none⟩)], .int .i64 (x : Int), undef, undef, undef], defers := [] }) ?assign ?body ?done ?stop
  case assign =>
    intro l x W K hK
    gi_wp2
    simpa using hK
  case body =>
    rintro l pre x W ⟨⟨hc, hf⟩, hB⟩ hlt
    have hp : ((pre.length : Nat) : Int) + 1 ≤ 2097152 := by omega
    have hp0 : (0 : Int) ≤ ((pre.length : Nat) : Int) := by omega
    have he : (((pre ++ [x]).length : Nat) : Int) = ((pre.length : Nat) : Int) + 1 := by simp
    have HE := hide he
    clear he
    generalize ((pre.length : Nat) : Int) = m at hc hp hp0 HE
    gi_wp2
    refine ⟨KeepsOthers.setCell _ _ _, ⟨(Below.refl w.heap.size W).setCell (p := ⟨w.heap.size, 0, none⟩) (Nat.le_refl _) _, fun v hv => ?_⟩, ⟨?_, by rw [World.frozen?_setCell]; exact hf⟩, hB.setCell (p := ⟨w.heap.size, 0, none⟩) (Nat.le_refl _) _⟩
    · rw [← hv]; exact World.cell?_of_block (Below.heap_setCell W ⟨w.heap.size, 0, none⟩ _ (w.heap.size + 1) (by simp))
    · rw [unhide HE]; exact World.cell?_setCell_same' _ _ _ (by rw [hc]; rfl)
  case done =>
    rintro D ys W hD rfl ⟨⟨hc, _⟩, hB⟩ hK
    gi_wp2
    refine ⟨by simp, .inl ⟨_, _, rfl, run_takeDeferred hK, ?_⟩⟩
    exact ⟨_, results_tmp rfl _ _ _, rfl, hB.trans (belowK_b (w := w) (Nat.le_refl _) W D _ _ (by simp at hD; omega) hK rfl rfl)⟩
  case stop =>
    rintro D c pre W _ _ h _
    exact h.elim

set_option maxRecDepth 100000 in
set_option maxHeartbeats 2000000 in
theorem isUpFrom_in (F : Fence) (n : Nat) (hf1 : F.fn 151) (hf2 : F.fn 155) (hf3 : F.fn 157) (hro : F.round = none) (hn : 3 ≤ n) (a : Option Addr) (len cap : Nat) (its : List It) (from_ : Int) (q : Nat) (xs : List Nat) (w : World)
    (hI : ItRow w a len its) (hl : len ≤ 1048576) (hL : IsWay its from_ xs) :
    CallsIn F n Tryz.prog 151 #[.slice a len cap, .int .i64 from_, .int .i64 (q : Int)] w fun e W' => e = .returned (.bool (decide (q ∈ xs))) ∧ Below w.heap.size w W' := by
  have h1 : 1 ≤ n := by omega
  refine callsIn_of_wp_marks Tryz.func151 rfl hf1 ?_ hro
  simp only [Tryz.ntmps151, List.size_toArray, List.length_cons, List.length_nil, Nat.reduceAdd, Nat.reduceSub, Array.replicate_succ, Array.replicate_zero, List.push_toArray, List.append_toArray, List.nil_append, List.cons_append]
  gi_wp2_with (gi_at_call 155; refine (wayUp_in F (n - 1) hf2 hro _ _ _ _ _).mono ?_; rintro e w' ⟨rfl, rfl⟩)
  have c0 := new_cell w (.int .i64 (q : Int)) 2
  have c1 := new_cell (w.alloc (.cells #[.int .i64 (q : Int)] 2)) (.bool false) 4
  have c2 := new_cell ((w.alloc (.cells #[.int .i64 (q : Int)] 2)).alloc (.cells #[.bool false] 4)) (.slice a len cap) 148
  have c3 := new_cell (((w.alloc (.cells #[.int .i64 (q : Int)] 2)).alloc (.cells #[.bool false] 4)).alloc (.cells #[.slice a len cap] 148)) (.int .i64 from_) 2
  simp only [World.size_alloc] at c1 c2 c3
  have hB0 : Below w.heap.size w ((((w.alloc (.cells #[.int .i64 (q : Int)] 2)).alloc (.cells #[.bool false] 4)).alloc (.cells #[.slice a len cap] 148)).alloc (.cells #[.int .i64 from_] 2)) := ((((Below.refl _ w).alloc (Nat.le_refl _) _).alloc (by simp) _).alloc (by simp; omega) _).alloc (by simp; omega) _
  refine wpIn_rangeFunc_ownF hro h1 (gf := 157) (lb := #[.pointer (some ⟨w.heap.size + 1 + 1 + 1, 0, none⟩), .pointer (some ⟨w.heap.size + 1 + 1, 0, none⟩)]) rfl hf3 (enters_of Tryz.func157 (by kernel_rfl) rfl)
    (way_stops F (n - 1) hf3 hro (by omega) (w.heap.size + 1 + 1 + 1) (w.heap.size + 1 + 1) from_ a len cap its xs w _ hI hl hB0 (by simp) (by simp) c3.1 (old_cell _ c2.1) hL) kpW_t (kpW_b (by simp; omega)) (Below.refl _ _) (fun _ => rfl)
    (fun pre W => ((∀ y ∈ pre, y ≠ q) ∧ W.cell? ⟨w.heap.size, 0, none⟩ = some (.int .i64 (q : Int)) ∧ W.cell? ⟨w.heap.size + 1, 0, none⟩ = some (.bool false) ∧ W.frozen? ⟨w.heap.size + 1, 0, none⟩ = false) ∧ Below w.heap.size w W)
    (fun c pre W => (c = .ret ∧ q ∈ pre ∧ W.cell? ⟨w.heap.size + 1, 0, none⟩ = some (.bool true)) ∧ Below w.heap.size w W)
    (OwnFrom.and (Own.from (fun s A B row hs hg hr => ⟨hs.1, cell_kept hs.2.1 hg hr, cell_kept hs.2.2.1 hg hr, (frozen_kept hs.2.2.1 hg hr).trans hs.2.2.2⟩) _) (ownFrom_below (Nat.le_refl _) (by simp; omega)))
    (fun c => OwnFrom.and (Own.from (fun s A B row hs hg hr => ⟨hs.1, hs.2.1, cell_kept hs.2.2 hg hr⟩) _) (ownFrom_below (Nat.le_refl _) (by simp; omega)))
    ⟨⟨by simp, old_cell _ (old_cell _ (old_cell _ c0.1)), old_cell _ (old_cell _ c1.1), old_free _ (old_cell _ c1.1) (old_free _ c1.1 c1.2)⟩, hB0⟩
    (fun x => { tmps := #[.slice a len cap, .int .i64 from_, .int .i64 (q : Int), undef, undef, .pointer (some ⟨w.heap.size, 0, none⟩), .pointer (some ⟨w.heap.size + 1, 0, none⟩), .int .i64 (x : Int), .slice a len cap, .int .i64 from_, .func (.func 157) #[] #[.pointer (some ⟨w.heap.size + 1 + 1 + 1, 0, none⟩), .pointer (some ⟨w.heap.size + 1 + 1, 0, none⟩)], .int .i64 (x : Int), undef, undef, undef], defers := [] }) ?assign ?body ?done ?stop
  case assign =>
    intro l x W K hK
    gi_wp2
    exact hK
  case body =>
    rintro l pre x W ⟨⟨hp, hcw, hcr, hfr⟩, hB⟩ _
    by_cases hx : x = q
    · subst hx
      gi_wp2
      exact ⟨KeepsOthers.setCell _ _ _, ⟨rfl, List.mem_append.2 (.inr (by simp)), World.cell?_setCell_same' _ _ _ (by rw [hcr]; rfl)⟩, hB.setCell (p := ⟨w.heap.size + 1, 0, none⟩) (by simp) _⟩
    · have hne : (((x : Nat) : Int) == ((q : Nat) : Int)) = false := by simp; omega
      gi_wp2
      exact ⟨KeepsOthers.refl _, ⟨Below.refl _ _, fun v hv => hv⟩, ⟨fun y hy => (List.mem_append.1 hy).elim (hp y) (fun e e' => by simp at e; subst e; exact hx e'), hcw, hcr, hfr⟩, hB⟩
  case done =>
    rintro D ys W hD rfl ⟨⟨hne, _, hcr, hfr⟩, hB⟩ hK
    gi_wp2
    have hK' := (KeepsOthers.setCell W ⟨w.heap.size + 1, 0, none⟩ (.bool false)).same D _ hK rfl
    refine ⟨by simp, .inl ⟨_, _, rfl, run_takeDeferred hK', ?_⟩⟩
    have hc5 := cell_kept (World.cell?_setCell_same' W ⟨w.heap.size + 1, 0, none⟩ (.bool false) (by rw [hcr]; rfl)) (grownBy_putObj' _ D (.deferred none)) (fun r e => by cases e; exact ⟨_, hK', rfl⟩)
    refine ⟨.bool false, ?_, by rw [decide_eq_false (fun h => hne q h rfl)], (hB.setCell (p := ⟨w.heap.size + 1, 0, none⟩) (by simp) _).trans (belowK_b (w := w) (Nat.le_refl _) _ D _ _ (by simp at hD; omega) hK' rfl rfl)⟩
    simp [results, Tryz.results151, go_sem, hc5]
  case stop =>
    rintro D c pre W hD hpre ⟨⟨rfl, hin, hcr⟩, hB⟩ hK
    gi_wp2
    refine ⟨by simp, .inl ⟨_, _, rfl, run_takeDeferred hK, ?_⟩⟩
    have hc5 := cell_kept hcr (grownBy_putObj' _ D (.deferred none)) (fun r e => by cases e; exact ⟨_, hK, rfl⟩)
    refine ⟨.bool true, ?_, by rw [decide_eq_true (hpre.subset hin)], hB.trans (belowK_b (w := w) (Nat.le_refl _) W D _ _ (by simp at hD; omega) hK rfl rfl)⟩
    simp [results, Tryz.results151, go_sem, hc5]

theorem deepOf_any (a : Option Addr) (len cap : Nat) (its : List It) (from_ : Int) (xs : List Nat) (w : World) (hI : ItRow w a len its) (hl : len ≤ 1048576) (hL : IsWay its from_ xs) (hxl : xs.length ≤ 2097152) :
    Calls Tryz.prog 152 #[.slice a len cap, .int .i64 from_] w fun e W' => e = .returned (.int .i64 (xs.length : Int)) ∧ Below w.heap.size w W' :=
  (callsIn_wide (n := 3)).1 (deepOf_in _ 3 trivial trivial trivial rfl (Nat.le_refl _) a len cap its from_ xs w hI hl hL hxl)

theorem isUpFrom_any (a : Option Addr) (len cap : Nat) (its : List It) (from_ : Int) (q : Nat) (xs : List Nat) (w : World) (hI : ItRow w a len its) (hl : len ≤ 1048576) (hL : IsWay its from_ xs) :
    Calls Tryz.prog 151 #[.slice a len cap, .int .i64 from_, .int .i64 (q : Int)] w fun e W' => e = .returned (.bool (decide (q ∈ xs))) ∧ Below w.heap.size w W' :=
  (callsIn_wide (n := 3)).1 (isUpFrom_in _ 3 trivial trivial trivial rfl (Nat.le_refl _) a len cap its from_ q xs w hI hl hL)

end Go.Proofs.YtldiilmpmcbjkaaGreatDoor

/- What is proved here: what the program's itemFault and ItemsFault answer: the fault of an item whose forerunners have none, and the first fault of items. -/
namespace Go.Proofs.YtldiilmpmcbjkaaGreatDoor
open Go.RowKit
set_option linter.unusedVariables false
set_option maxRecDepth 100000

theorem below_set3 (w : World) (x y z u v t : Value) (T : TypeId) : Below w.heap.size w (((((w.alloc (.cells #[x, y, z] T)).setCell ⟨w.heap.size, 0, none⟩ u).setCell ⟨w.heap.size, 1, none⟩ v).setCell ⟨w.heap.size, 2, none⟩ t)) :=
  (((below_alloc w _).setCell (Nat.le_refl _) _).setCell (Nat.le_refl _) _).setCell (Nat.le_refl _) _

set_option maxHeartbeats 4000000 in
theorem itemFault_any (a : Option Addr) (len cap : Nat) (its : List It) (k : Nat) (it : It) (w : World) (h : ItRow w a len its) (hl : len ≤ 1048576) (hit : its[k]? = some it) (hup : UpOk its k) :
    Calls Tryz.prog 145 #[.slice a len cap, .int .i64 (k : Int)] w fun e w' => e = .returned (.int .i64 (fltAt its k it)) ∧ Below w.heap.size w w' := by
  have hkl : k < its.length := (List.getElem?_eq_some_iff.1 hit).1
  have hkn : k < len := by rw [← h.1]; exact hkl
  have HW1 := hide (fun (W : World) (hb : Below w.heap.size w W) => h.below hb (Nat.le_refl _))
  obtain ⟨b, off, rfl, hb, hat⟩ := h.at (by omega)
  obtain ⟨sa, sl, sc, c0, c1, c2, hbr⟩ := hat k it hit
  have hsl : it.z.length = sl := hbr.1
  have HAT := hide hat
  have hio := (h.2.1 it (List.mem_of_getElem? hit)).2.2
  rw [hsl] at hio
  unfold maxLen at hio
  have i1 : (0 : Int) ≤ (k : Int) := by omega
  have i2 : (k : Int) < (len : Int) := by omega
  have hz0 : (0 : Int) ≤ (sl : Int) := by omega
  have hlen := h.1
  clear hat hbr h
  obtain ⟨il, ip, iz⟩ := it
  simp only at c0 c1 hsl
  by_cases t1 : il = true ∧ 0 < sl
  · obtain ⟨rfl, hpos⟩ := t1
    have HE : Hid (fltAt its k ⟨true, ip, iz⟩ = 1) := by show _ = _; unfold fltAt; rw [if_pos ⟨rfl, by simpa [hsl] using hpos⟩]
    have hd : decide ((0 : Int) < (sl : Int)) = true := decide_eq_true (by omega)
    go_enter Tryz.func145, Tryz.ntmps145
    go_wp2_with fail
    go_ret
    refine ⟨ret_int (unhide HE).symm, ?_⟩
    exact below_alloc w _
  · have n1 : ¬ (il = true ∧ 0 < iz.length) := by rw [hsl]; exact t1
    have t1' : il = false ∨ (il = true ∧ sl = 0) := by
      cases il
      · exact .inl rfl
      · refine .inr ⟨rfl, ?_⟩
        have : ¬ 0 < sl := fun hh => t1 ⟨rfl, hh⟩
        omega
    clear t1
    by_cases t2 : 300 < sl
    · have HE : Hid (fltAt its k ⟨il, ip, iz⟩ = 2) := by show _ = _; unfold fltAt; rw [if_neg n1, if_pos (by simpa [hsl] using t2)]
      obtain rfl : il = false := by rcases t1' with e | ⟨_, e⟩; exact e; omega
      have hd : decide ((300 : Int) < (sl : Int)) = true := decide_eq_true (by omega)
      clear n1 t1'
      go_enter Tryz.func145, Tryz.ntmps145
      go_wp2_with fail
      go_ret
      exact ⟨ret_int (unhide HE).symm, below_alloc w _⟩
    · have n2 : ¬ 300 < iz.length := by rw [hsl]; exact t2
      have d2 : decide ((300 : Int) < (sl : Int)) = false := decide_eq_false (by omega)
      by_cases k0 : k = 0
      · have dk : (((k : Nat) : Int) == 0) = true := by simp [k0]
        by_cases hp : ip = -1
        · subst hp
          have HE : Hid (fltAt its k ⟨il, -1, iz⟩ = 0) := by show _ = _; unfold fltAt; rw [if_neg n1, if_neg n2, if_pos k0, if_pos rfl]
          clear n1 n2 t2 k0
          rcases t1' with rfl | ⟨rfl, rfl⟩
          all_goals
            go_enter Tryz.func145, Tryz.ntmps145
            go_wp2_with fail
            go_ret
            exact ⟨ret_int (unhide HE).symm, below_alloc w _⟩
        · have HE : Hid (fltAt its k ⟨il, ip, iz⟩ = 3) := by show _ = _; unfold fltAt; rw [if_neg n1, if_neg n2, if_pos k0, if_neg hp]
          have hd : (ip != -1) = true := by simp [hp]
          clear n1 n2 t2 k0
          rcases t1' with rfl | ⟨rfl, rfl⟩
          all_goals
            go_enter Tryz.func145, Tryz.ntmps145
            go_wp2_with fail
            go_ret
            exact ⟨ret_int (unhide HE).symm, below_alloc w _⟩
      · have dk : (((k : Nat) : Int) == 0) = false := by simp; omega
        by_cases t3 : ip < 0 ∨ (k : Int) ≤ ip
        · have HE : Hid (fltAt its k ⟨il, ip, iz⟩ = 3) := by show _ = _; unfold fltAt; rw [if_neg n1, if_neg n2, if_neg k0, if_pos t3]
          clear n1 n2 t2
          by_cases t3a : ip < 0
          · have d3 : decide (ip < 0) = true := decide_eq_true t3a
            rcases t1' with rfl | ⟨rfl, rfl⟩
            all_goals
              go_enter Tryz.func145, Tryz.ntmps145
              go_wp2_with fail
              go_ret
              exact ⟨ret_int (unhide HE).symm, below_alloc w _⟩
          · have d3 : decide (ip < 0) = false := decide_eq_false t3a
            have d4 : decide ((k : Int) ≤ ip) = true := decide_eq_true (by omega)
            rcases t1' with rfl | ⟨rfl, rfl⟩
            all_goals
              go_enter Tryz.func145, Tryz.ntmps145
              go_wp2_with fail
              go_ret
              exact ⟨ret_int (unhide HE).symm, below_alloc w _⟩
        · have d3 : decide (ip < 0) = false := decide_eq_false (by omega)
          have d4 : decide ((k : Int) ≤ ip) = false := decide_eq_false (by omega)
          obtain ⟨q, rfl⟩ : ∃ q : Nat, ip = (q : Int) := ⟨ip.toNat, by omega⟩
          have hqk : q < k := by omega
          obtain ⟨jt, hjt⟩ : ∃ jt, its[q]? = some jt := ⟨_, List.getElem?_eq_getElem (by omega)⟩
          obtain ⟨ja, jl, jc, g0, g1, g2, _⟩ := (unhide HAT) q jt hjt
          have hla : lAt its q = jt.l := by unfold lAt; rw [hjt]
          obtain ⟨xs1, hx1⟩ := hup.way (by omega) (k - 1) (by omega)
          have e1 : ((k - 1 : Nat) : Int) = (k : Int) - 1 := by omega
          rw [e1] at hx1
          have hu1 := hx1.up (by omega)
          have hx2 : IsWay its (k : Int) (k :: upL its (q : Int)) := by
            obtain ⟨xq, hxq⟩ := hup.way (by omega) q hqk
            rw [hxq.up (by omega)]
            exact ⟨rfl, _, hit, by simp, by show (q : Int) < k; omega, hxq⟩
          have hu2 := hx2.up (by omega)
          have j1 : (0 : Int) ≤ (q : Int) := by omega
          have j2 : (q : Int) < (len : Int) := by omega
          have hxl : (k :: upL its (q : Int)).length ≤ 2097152 := by
            have : (upL its (q : Int)).length ≤ its.length + 1 := wayF_len _ _ _
            simp; omega
          generalize k :: upL its (q : Int) = xs2 at hx2 hu2 hxl
          have HF : Hid (fltAt its k ⟨il, (q : Int), iz⟩ = if jt.l = true ∧ q ∈ xs1 then (if 5 < xs2.length then 2 else 0) else 1) := by
            show _ = _
            unfold fltAt
            rw [if_neg n1, if_neg n2, if_neg k0, if_neg t3, Int.toNat_natCast, hla, hu1, hu2]
          have HX1 := hide hx1
          have HX2 := hide hx2
          have HUP := hide (fun (W : World) (hb : Below w.heap.size w W) => isUpFrom_any (some ⟨b, off, none⟩) len cap its ((k : Int) - 1) q xs1 W ((unhide HW1) W hb) hl hx1)
          have HDP := hide (fun (W : World) (hb : Below w.heap.size w W) => deepOf_any (some ⟨b, off, none⟩) len cap its (k : Int) xs2 W ((unhide HW1) W hb) hl hx2 hxl)
          generalize jt.l = jb at g0 HF
          clear n1 n2 t2 t3 hu1 hu2 hx1 hx2 hla e1 g1 g2 HX1 HX2 hjt
          cases jb
          · have HE : Hid (fltAt its k ⟨il, (q : Int), iz⟩ = 1) := by show _ = _; rw [unhide HF]; simp
            clear HF
            rcases t1' with rfl | ⟨rfl, rfl⟩
            all_goals
              go_enter Tryz.func145, Tryz.ntmps145
              go_wp2_with fail
              go_ret
              exact ⟨ret_int (unhide HE).symm, below_alloc w _⟩
          · by_cases hm : q ∈ xs1
            · have HM := hide hm
              have hdm : decide (q ∈ xs1) = true := decide_eq_true hm
              rw [hdm] at HUP
              by_cases h5 : 5 < xs2.length
              · have HE : Hid (fltAt its k ⟨il, (q : Int), iz⟩ = 2) := by show _ = _; rw [unhide HF]; simp [hm, h5]
                have d5 : decide ((5 : Int) < ((xs2.length : Nat) : Int)) = true := decide_eq_true (by omega)
                clear HF hdm hm
                rcases t1' with rfl | ⟨rfl, rfl⟩
                all_goals
                  go_enter Tryz.func145, Tryz.ntmps145
                  go_wp2_with fail
                  refine ((unhide HUP) _ (below_alloc w _)).mono ?_
                  rintro e w1 ⟨rfl, b1⟩
                  have B1 := (below_alloc w _).trans (b1.mono (below_alloc w _).size)
                  go_wp2_with fail
                  refine ((unhide HDP) _ B1).mono ?_
                  rintro e w2 ⟨rfl, b2⟩
                  have B2 := B1.trans (b2.mono B1.size)
                  go_wp2_with fail
                  go_ret
                  exact ⟨ret_int (unhide HE).symm, B2⟩
              · have HE : Hid (fltAt its k ⟨il, (q : Int), iz⟩ = 0) := by show _ = _; rw [unhide HF]; simp [hm, h5]
                have d5 : decide ((5 : Int) < ((xs2.length : Nat) : Int)) = false := decide_eq_false (by omega)
                clear HF hdm hm
                rcases t1' with rfl | ⟨rfl, rfl⟩
                all_goals
                  go_enter Tryz.func145, Tryz.ntmps145
                  go_wp2_with fail
                  refine ((unhide HUP) _ (below_alloc w _)).mono ?_
                  rintro e w1 ⟨rfl, b1⟩
                  have B1 := (below_alloc w _).trans (b1.mono (below_alloc w _).size)
                  go_wp2_with fail
                  refine ((unhide HDP) _ B1).mono ?_
                  rintro e w2 ⟨rfl, b2⟩
                  have B2 := B1.trans (b2.mono B1.size)
                  go_wp2_with fail
                  go_ret
                  exact ⟨ret_int (unhide HE).symm, B2⟩
            · have hdm : decide (q ∈ xs1) = false := decide_eq_false hm
              rw [hdm] at HUP
              have HE : Hid (fltAt its k ⟨il, (q : Int), iz⟩ = 1) := by show _ = _; rw [unhide HF]; simp [hm]
              clear HF hdm hm
              rcases t1' with rfl | ⟨rfl, rfl⟩
              all_goals
                go_enter Tryz.func145, Tryz.ntmps145
                go_wp2_with fail
                refine ((unhide HUP) _ (below_alloc w _)).mono ?_
                rintro e w1 ⟨rfl, b1⟩
                have B1 := (below_alloc w _).trans (b1.mono (below_alloc w _).size)
                go_wp2_with fail
                go_ret
                exact ⟨ret_int (unhide HE).symm, B1⟩

end Go.Proofs.YtldiilmpmcbjkaaGreatDoor

/- What is proved here: what the program's ItemsFault answers: the first fault of items. -/
namespace Go.Proofs.YtldiilmpmcbjkaaGreatDoor
open Go.RowKit
set_option linter.unusedVariables false
set_option maxRecDepth 100000

set_option maxHeartbeats 2000000 in
theorem implFault_any (a : Option Addr) (len cap : Nat) (its : List It) (w : World) (h : ItRow w a len its) (hl : len ≤ 1048576) :
    Calls Tryz.prog 129 #[.slice a len cap] w fun e w' => e = .returned (.int .i64 (itemsFlt its)) ∧ Below w.heap.size w w' := by
  have hil := h.1
  by_cases h1 : len < 1
  · have HE : Hid (itemsFlt its = 2) := by show _ = _; unfold itemsFlt; rw [if_pos (.inl (by rw [hil]; exact h1))]
    have hd : decide ((len : Int) < 1) = true := decide_eq_true (by omega)
    clear h hil
    go_enter Tryz.func129, Tryz.ntmps129
    go_wp2_with fail
    go_ret
    exact ⟨ret_int (unhide HE).symm, Below.refl _ _⟩
  · have d1 : decide ((len : Int) < 1) = false := decide_eq_false (by omega)
    by_cases h2 : 200 < len
    · have HE : Hid (itemsFlt its = 2) := by show _ = _; unfold itemsFlt; rw [if_pos (.inr (by rw [hil]; exact h2))]
      have hd : decide ((200 : Int) < (len : Int)) = true := decide_eq_true (by omega)
      clear h hil
      go_enter Tryz.func129, Tryz.ntmps129
      go_wp2_with fail
      go_ret
      exact ⟨ret_int (unhide HE).symm, Below.refl _ _⟩
    · have d2 : decide ((200 : Int) < (len : Int)) = false := decide_eq_false (by omega)
      have HE : Hid (itemsFlt its = fltFrom its 0 its) := by show _ = _; unfold itemsFlt; rw [if_neg (by omega)]
      have HW := hide (fun (W : World) (hb : Below w.heap.size w W) => h.below hb (Nat.le_refl _))
      have HL := hide hil
      clear h hil
      go_enter Tryz.func129, Tryz.ntmps129
      go_wp2_with fail
      go_loopw [15] (fun i wr => ∃ k : Nat, k ≤ len ∧ i = .int .i64 k ∧ UpOk its k ∧ fltFrom its 0 its = fltFrom its k (its.drop k) ∧ Below w.heap.size w wr) (fun i _ => len - (intOf i).toNat)
      case atStart => exact ⟨0, Nat.zero_le _, rfl, fun j it hj => absurd hj (Nat.not_lt_zero _), by simp, Below.refl _ _⟩
      case round =>
        obtain ⟨k, hk, rfl, hup, hpre, hbr⟩ := hrel
        by_cases hlt : k < len
        · obtain ⟨it, hit⟩ : ∃ it, its[k]? = some it := ⟨_, List.getElem?_eq_getElem (by rw [unhide HL]; exact hlt)⟩
          have hst := fltFrom_step its k it hit
          rw [← hpre] at hst
          have HF := hide (itemFault_any a len cap its k it wr ((unhide HW) wr hbr) hl hit hup)
          have HN : Hid (fltAt its k it = 0 → UpOk its (k + 1)) := fun e => upOk_step hup hit (fltAt_up e).1 (fltAt_up e).2
          have HS := hide hst
          have HB := hide hbr
          generalize fltAt its k it = c at HF HN HS
          have i2 : decide ((k : Int) < (len : Int)) = true := decide_eq_true (by omega)
          clear hst hpre hbr hup hit
          by_cases hc : c = 0
          · have HN1 := hide ((unhide HN) hc)
            have HS1 : Hid (fltFrom its 0 its = fltFrom its (k + 1) (its.drop (k + 1))) := by show _ = _; rw [unhide HS, if_pos hc]
            clear HN HS
            subst hc
            go_wp2_with fail
            refine (unhide HF).mono ?_
            rintro e w1 ⟨rfl, b1⟩
            go_wp2_with fail
            go_roundw
            case rel => exact ⟨k + 1, by omega, by go_num, unhide HN1, unhide HS1, (unhide HB).trans (b1.mono (unhide HB).size)⟩
            case measure => simp [intOf]; omega
          · have hne : (c != 0) = true := by simp [hc]
            go_wp2_with fail
            refine (unhide HF).mono ?_
            rintro e w1 ⟨rfl, b1⟩
            go_wp2_with fail
            go_ret
            exact ⟨ret_int (by rw [unhide HE, unhide HS, if_neg hc]), (unhide HB).trans (b1.mono (unhide HB).size)⟩
        · obtain rfl : k = len := by omega
          have e := fltFrom_end its k (by rw [unhide HL]; exact Nat.le_refl _)
          rw [e] at hpre
          have HP := hide hpre
          have i2 : decide ((k : Int) < (k : Int)) = false := decide_eq_false (by omega)
          clear e hpre hup
          go_wp2_with fail
          go_ret
          exact ⟨ret_int (by rw [unhide HE, unhide HP]), hbr⟩

end Go.Proofs.YtldiilmpmcbjkaaGreatDoor

/- What is proved here: what is known behind the block of an answer that was laid first; it holds for every program. -/
namespace Go.Proofs.YtldiilmpmcbjkaaGreatDoor
open Go.RowKit
set_option linter.unusedVariables false
set_option maxRecDepth 100000

/-- What is known behind the block of the answer. -/
theorem behind_res {w w2 : World} {T : TypeId} (hbel : Below (w.heap.size + 1) (w.alloc (.cells #[.int .i64 0, .slice none 0 0] T)) w2) :
    w2.cell? ⟨w.heap.size, 0, none⟩ = some (.int .i64 0) ∧ w2.cell? ⟨w.heap.size, 1, none⟩ = some (.slice none 0 0) ∧ w2.frozen? ⟨w.heap.size, 0, none⟩ = false ∧ w2.frozen? ⟨w.heap.size, 1, none⟩ = false ∧ Below w.heap.size w w2 ∧ w.heap.size + 1 ≤ w2.heap.size :=
  ⟨(hbel.cell (by simp)).trans (by simp), (hbel.cell (by simp)).trans (by simp), (hbel.frozen (by simp)).trans (by simp), (hbel.frozen (by simp)).trans (by simp), (below_alloc w _).trans (hbel.mono (by omega)), by have := hbel.size; simp at this; omega⟩

end Go.Proofs.YtldiilmpmcbjkaaGreatDoor
