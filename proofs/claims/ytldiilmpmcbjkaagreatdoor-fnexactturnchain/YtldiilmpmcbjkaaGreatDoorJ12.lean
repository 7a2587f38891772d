/- What is proved here: what the program's EncodeItems answers: the code and the bytes, in new memory. -/
import Derived.Test.YtldiilmpmcbjkaaGreatDoorJ11
import Derived.Test.YtldiilmpmcbjkaaGreatDoorJ9
import Derived.Test.YtldiilmpmcbjkaaGreatDoorChecked
import Derived.Test.YtldiilmpmcbjkaaGreatDoorJ4
import Derived.WalkKit
import Derived.WalkLawsBesides
import Derived.WalkSmall
import Derived.KernelRfl
import Derived.WalkSpells
import Derived.Test.YtldiilmpmcbjkaaGreatDoorJ6
import Derived.Test.YtldiilmpmcbjkaaGreatDoorJ10
import Derived.Test.YtldiilmpmcbjkaaGreatDoorJ7
import Derived.Test.YtldiilmpmcbjkaaGreatDoorJ1
import Derived.Laws.BitsAllLaws
namespace Go.Proofs.YtldiilmpmcbjkaaGreatDoor
open Go.RowKit
set_option linter.unusedVariables false
set_option maxRecDepth 100000

theorem hdI_range (it : It) (n : Nat) : ∀ x ∈ hdI it n, 0 ≤ x ∧ x ≤ 255 := by
  unfold hdI; split
  · intro x hx; simp at hx
  · exact hdBytes_range _ _

set_option maxHeartbeats 8000000 in
theorem implEnc_any (a : Option Addr) (len cap : Nat) (its : List It) (w : World) (h : ItRowN w a len its) (hl : len ≤ 1048576) :
    Calls Tryz.prog 118 #[.slice a len cap] w fun e w' => ∃ a' cap', e = .returned (.agg #[.int .i64 (enCode its), .slice a' (enBytes its).length cap']) ∧
      w'.ownsRow w.heap.size 5 1 (.slice a' (enBytes its).length cap') (enBytes its).length ((enBytes its).map (Value.int .u8)) ∧ Below w.heap.size w w' := by
  obtain ⟨i0, hi, hz0, hz1, hz2⟩ := info_parts info5
  have HF : Hid (∀ W g, W.heap.size = g → Below w.heap.size w W → Calls Tryz.prog 129 #[.slice a len cap] W fun e w' => e = .returned (.int .i64 (itemsFlt its)) ∧ Below g W w') := fun W g hg hb => by
    subst hg; exact implFault_any a len cap its W (h.1.below hb (Nat.le_refl _)) hl
  by_cases hf : itemsFlt its = 0
  · have N := noFault_of hf
    rw [hf] at HF
    have hlen := h.1.1
    have hl200 : len ≤ 200 := by rw [← hlen]; exact N.few
    have hl0 : 0 < len := by rw [← hlen]; exact N.some
    have HHD := hide (fun (W : World) (hb : Below w.heap.size w W) => headsOf_any a len cap its N W (h.below hb (Nat.le_refl _)))
    have htie := enc_tie N
    have hdl : (dFrom hdI its 0).length ≤ 61600 := by
      have := dN_le hdI hdI_length N.small its.length 0
      have h5 := N.few
      have : (dFrom hdI its 0).length ≤ 308 * its.length := this
      omega
    have hbytes := h.1.bytes
    obtain ⟨b, off, rfl, hb, hat⟩ := h.at hl0
    have HAT := hide hat
    have HBY := hide hbytes
    have HL := hide hlen
    have HT := hide htie
    clear hat h hbytes hlen htie
    go_enter Tryz.func118, Tryz.ntmps118
    go_wp2_with fail
    refine ((unhide HF) _ (w.heap.size + 1) (by simp) (below_alloc w _)).mono ?_
    rintro e w1 ⟨rfl, b1⟩
    have B1 : Below w.heap.size w w1 := (behind_res b1).2.2.2.2.1
    go_wp2_with fail
    refine ((unhide HHD) _ B1).mono ?_
    rintro e w3 ⟨rfl, hh3, b3⟩
    have s1 := (behind_res b1).2.2.2.2.2
    have B3 : Below (w.heap.size + 1) (w.alloc (.cells #[.int .i64 0, .slice none 0 0] 111)) w3 := b1.trans (b3.mono s1)
    have s3 := (behind_res B3).2.2.2.2.2
    have gh3 : w1.heap.size < w3.heap.size := by obtain ⟨hv, q1, _⟩ := hh3; exact q1.lt
    have HH3 := hide hh3
    have HB3 := hide B3
    generalize w1.heap.size = gh at HH3 gh3
    clear hh3 b3 b1 B1 B3 s1
    go_wp2_with fail
    go_loopw [5, 18] (fun s i wr => ∃ (k m : Nat) (L : List Int) (ab : Option Addr) (cb : Nat), k ≤ len ∧ i = .int .i64 k ∧ L.length = m ∧ L ++ dFrom hdI its k = dFrom hdI its 0 ∧ s = .slice ab m cb ∧ wr.ownsRow w3.heap.size 5 1 (.slice ab m cb) m (L.map (Value.int .u8)) ∧ Below w3.heap.size w3 wr) (fun _ i _ => len - (intOf i).toNat)
    case atStart => exact ⟨0, 0, [], none, 0, Nat.zero_le _, rfl, rfl, rfl, rfl, World.ownsRow_nil _ _ _ _, Below.refl _ _⟩
    case round =>
      obtain ⟨k, m, L, ab, cb, hk, rfl, hLm, hsplit, rfl, hown, hbr⟩ := hrel
      have BW : Below (w.heap.size + 1) (w.alloc (.cells #[.int .i64 0, .slice none 0 0] 111)) wr := (unhide HB3).trans (hbr.mono s3)
      obtain ⟨r0, r1, g0, g1, hbw, hsz⟩ := behind_res BW
      by_cases hlt : k < len
      · clear r0 r1 g0 g1
        obtain ⟨it, hit⟩ : ∃ it, its[k]? = some it := ⟨_, List.getElem?_eq_getElem (by rw [unhide HL]; exact hlt)⟩
        obtain ⟨sa, sc, c0, c1, c2, hrow, hnil⟩ := (unhide HAT) k it hit
        have c0r := (hbw.cell (p := ⟨b, off + k * 3, none⟩) hb).trans c0
        have c1r := (hbw.cell (p := ⟨b, off + k * 3 + 1, none⟩) hb).trans c1
        have c2r := (hbw.cell (p := ⟨b, off + k * 3 + 2, none⟩) hb).trans c2
        obtain ⟨hv, q1, q2, q3⟩ := (unhide HH3).below hbr (Nat.le_refl _)
        obtain ⟨ah, ch, p1, p2⟩ := q3 k it (Nat.zero_le _) hit
        have hd0 : wr.cell? ⟨gh, k, none⟩ = some (.slice ah (hdAt its k it).length ch) := by rw [q1.cell]; exact p1
        have hst := dFrom_step hdI hit
        have hhr := BRow.own2 p2 (hdI_range _ _)
        have hhc := own_cap p2
        have hh8 : (hdAt its k it).length ≤ 8 := hdI_length _ _
        have hz3 := N.small it (List.mem_of_getElem? hit)
        have HHR := hide (fun (W : World) (hb' : Below wr.heap.size wr W) => hhr.below hb' (Nat.le_refl _))
        have HZR := hide (fun (W : World) (hb' : Below w.heap.size w W) => hrow.below hb' (Nat.le_refl _))
        have hmb : m ≤ 61600 := by
          have : (L ++ dFrom hdI its k).length ≤ 61600 := by rw [hsplit]; exact hdl
          rw [List.length_append, hLm] at this
          omega
        have HNX : Hid (L ++ hdAt its k it ++ it.z ++ dFrom hdI its (k + 1) = dFrom hdI its 0) := by
          show _ = _
          rw [← hsplit, hst]
          simp [hdAt, List.append_assoc]
        have hzl : it.z.length = it.z.length := rfl
        generalize hdAt its k it = HK at hd0 hh8 HHR HNX p2 hhc
        obtain ⟨zl, hzl⟩ : ∃ zl, zl = it.z.length := ⟨_, rfl⟩
        rw [← hzl] at c2r hz3 HZR
        generalize it.z = zz at HZR HNX hzl
        generalize it.l = il at c0r
        have HZL := hide hzl
        have HLM := hide hLm
        have i1 : (0 : Int) ≤ (k : Int) := by omega
        have i2 : (k : Int) < (len : Int) := by omega
        have i3 : decide ((k : Int) < (len : Int)) = true := decide_eq_true i2
        have gl : gh < wr.heap.size := q1.lt
        have hd0' : ∀ o, (wr.alloc o).cell? ⟨gh, k, none⟩ = some (.slice ah HK.length ch) := fun o => ((below_alloc wr o).cell (p := ⟨gh, k, none⟩) gl).trans hd0
        have HOA := hide (fun o => hown.alloc o)
        have HLT := hide (fun g e => hown.lt g e)
        have hwr3 := hbr.size
        have HBR := hide hbr
        clear hst hhr hzl hLm hsplit hown hbr BW hbw q1 q2 q3 p1 p2 c0 c1 c2 hrow hit hd0
        have HWA : Hid (∀ o, Below wr.heap.size wr (wr.alloc o)) := fun o => below_alloc wr o
        go_wp2_with (at_builtin; refine wpList_append_brow _ rfl _ _ 60 rfl w3.heap.size i0 Tryz.underlying60 hi hz0 hz1 hz2 _ m L rfl ((unhide HOA) _) ah HK.length ch HK rfl ((unhide HHR) _ ((unhide HWA) _)) hhc (by omega) (by simp; omega) ?_)
        intro a4 c4 w4 o4 g4
        have K4 : Below w3.heap.size w3 w4 := ((unhide HBR).alloc hwr3 _).grown g4 (by simp; omega) (fun g e => ((unhide HLT) g e).1)
        have BW4 : Below w.heap.size w w4 := (behind_res ((unhide HB3).trans (K4.mono s3))).2.2.2.2.1
        have hne : ∀ g, (Value.slice ab m cb).ownBlock = some g → g < wr.heap.size := fun g e => ((unhide HLT) g e).2
        have ci : w4.cell? ⟨wr.heap.size, 2, none⟩ = some (.slice sa zl sc) := g4.cell (a := ⟨wr.heap.size, 2, none⟩) (by simp) (fun e => by have := hne _ e.symm; exact absurd this (Nat.lt_irrefl _))
        have hzr := (unhide HZR) w4 BW4
        have s34 := K4.size
        have HLT4 := hide (fun g e => (o4.lt g e).1)
        rw [← List.map_append] at o4
        have HO4 := hide o4
        have HK4 := hide K4
        clear o4 g4 K4 hd0' c0r c1r c2r BW4
        go_wp2_with (at_builtin; refine wpList_append_brow _ rfl _ _ 60 rfl w3.heap.size i0 Tryz.underlying60 hi hz0 hz1 hz2 _ (m + HK.length) (L ++ HK) rfl (unhide HO4) sa zl sc zz rfl hzr hnil (by omega) s34 ?_)
        intro a5 c5 w5 o5 g5
        have K5 : Below w3.heap.size w3 w5 := (unhide HK4).grown g5 s34 (fun g e => (unhide HLT4) g e)
        rw [← List.map_append] at o5
        have HO5 := hide o5
        have HK5 := hide K5
        clear o5 g5 K5 ci hzr
        go_wp2_with fail
        go_roundw
        case rel => exact ⟨k + 1, m + HK.length + zl, L ++ HK ++ zz, a5, c5, by omega, by go_num, by rw [List.length_append, List.length_append, unhide HLM, ← unhide HZL], unhide HNX, rfl, by simpa [List.append_assoc] using unhide HO5, unhide HK5⟩
        case measure => simp [intOf]; omega
      · obtain rfl : k = len := by omega
        have hde : dFrom hdI its k = [] := dFrom_end hdI its k (by rw [unhide HL]; exact Nat.le_refl _)
        rw [hde, List.append_nil] at hsplit
        have i3 : decide ((k : Int) < (k : Int)) = false := decide_eq_false (by omega)
        by_cases h12 : 1200 < (enc hdS its 0).length
        · have hgt := (unhide HT).1 h12
          rw [← hsplit, hLm] at hgt
          have HE1 : Hid (enCode its = 2) := by show _ = _; unfold enCode; rw [if_pos hf, if_pos h12]
          have HE2 : Hid (enBytes its = []) := by show _ = _; unfold enBytes; rw [if_neg (by omega)]
          have d1 : decide ((1200 : Int) < (m : Int)) = true := decide_eq_true (by omega)
          have HB := hide hbw
          clear hsplit hLm hown hbr BW hde h12 hbw
          go_wp2_with fail
          refine bodyPost_ret (v := .agg #[.int .i64 2, .slice none 0 0]) (by simp [results, Tryz.results118, go_sem, r0, r1]) rfl ⟨none, 0, ?_, ?_, ((unhide HB).setCell (by simp) _).setCell (by simp) _⟩
          · rw [unhide HE1, unhide HE2]; rfl
          · rw [unhide HE2]; exact World.ownsRow_nil _ _ _ _
        · have heq := (unhide HT).2 (by omega)
          rw [← hsplit] at heq
          have hm12 : m ≤ 1200 := by rw [← hLm, heq]; omega
          have HE1 : Hid (enCode its = 0) := by show _ = _; unfold enCode; rw [if_pos hf, if_neg h12]
          have HE2 : Hid (enBytes its = L) := by show _ = _; unfold enBytes; rw [if_pos ⟨hf, by omega⟩, heq]
          have d1 : decide ((1200 : Int) < (m : Int)) = false := decide_eq_false (by omega)
          have HB := hide hbw
          have HO := hide hown
          have HLM := hide hLm
          clear hsplit hLm hown hbr BW hde h12 hbw heq
          go_wp2_with fail
          refine bodyPost_ret (v := .agg #[.int .i64 0, .slice ab m cb]) (by simp [results, Tryz.results118, go_sem, r0, r1]) rfl ⟨ab, cb, ?_, ?_, ((unhide HB).setCell (by simp) _).setCell (by simp) _⟩
          · rw [unhide HE1, unhide HE2, unhide HLM]
          · rw [unhide HE2, unhide HLM]
            exact ownsRow_base (ownsRow_setCell_below (ownsRow_setCell_below (unhide HO) (by simp; omega) _) (by simp; omega) _) (by omega)
  · have e1 : enCode its = itemsFlt its := by unfold enCode; rw [if_neg hf]
    have e2 : enBytes its = [] := by unfold enBytes; rw [if_neg (fun hh => hf hh.1)]
    rw [e1, e2]
    have hne : (itemsFlt its != 0) = true := by simp [hf]
    generalize itemsFlt its = c at HF hne
    clear e1 e2 h hf
    go_enter Tryz.func118, Tryz.ntmps118
    go_wp2_with fail
    refine ((unhide HF) _ (w.heap.size + 1) (by simp) (below_alloc w _)).mono ?_
    rintro e w1 ⟨rfl, b1⟩
    obtain ⟨r0, r1, g0, g1, hbw, hsz⟩ := behind_res b1
    clear b1
    go_wp2_with fail
    exact bodyPost_ret (v := .agg #[.int .i64 c, .slice none 0 0]) (by simp [results, Tryz.results118, go_sem, r0, r1]) rfl ⟨none, 0, rfl, World.ownsRow_nil _ _ _ _, (hbw.setCell (by simp) _).setCell (by simp) _⟩

end Go.Proofs.YtldiilmpmcbjkaaGreatDoor

/- What is proved here: what the program's blockOf answers: the same eleven cells. -/
namespace Go.Proofs.YtldiilmpmcbjkaaGreatDoor
open Go.RowKit
set_option linter.unusedVariables false
set_option maxRecDepth 100000

set_option maxHeartbeats 4000000 in
theorem blockOf_any (x : HS) (h : Hd) (w : World) : Calls Tryz.prog 87 #[.agg (hvals x h)] w fun e w' => e = .returned (.agg (hvals x h)) ∧ Below w.heap.size w w' := by
  unfold hvals
  go_enter Tryz.func87, Tryz.ntmps87
  go_wp2_with fail
  refine bodyPost_ret (v := .agg #[.slice x.p.a x.p.n x.p.c, .int .i64 h.n1, .int .i64 h.n2, .int .i64 h.n3, .slice x.t.a x.t.n x.t.c, .int .i64 h.n5, .slice x.s.a x.s.n x.s.c, .slice x.r.a x.r.n x.r.c, .slice x.g.a x.g.n x.g.c, .slice x.e.a x.e.n x.e.c, .slice x.k.a x.k.n x.k.c]) (by simp [results, Tryz.results87, go_sem]) rfl ⟨rfl, ?_⟩
  exact ((Below.refl w.heap.size w).alloc (Nat.le_refl _) _).alloc (by simp) _

end Go.Proofs.YtldiilmpmcbjkaaGreatDoor

/- What is proved here: what the program's HeaderFault answers: the fault of a header. -/
namespace Go.Proofs.YtldiilmpmcbjkaaGreatDoor
open Go.RowKit
set_option linter.unusedVariables false
set_option maxRecDepth 100000

set_option maxRecDepth 100000 in
set_option maxHeartbeats 8000000 in
theorem hasLengths_any (x : HS) (h : Hd) (w : World) (o : HOk w x h) :
    Calls Tryz.prog 88 #[.agg (hvals x h)] w fun e w' => e = .returned (.bool (!hdLen h)) ∧ Below w.heap.size w w' := by
  have k0 := SBlk.new w (hvals x h) 125
  have hb := below_alloc w (.cells (hvals x h) 125)
  obtain ⟨W0, e0⟩ : ∃ W0, w.alloc (.cells (hvals x h) 125) = W0 := ⟨_, rfl⟩
  rw [e0] at k0 hb
  obtain ⟨x0, x1, x2, x3, x4, x5, x6, x7, x8, x9, x10⟩ := hcells k0
  have HC := hide (fun (W : World) (hb' : Below W0.heap.size W0 W) => hcells (k0.below hb' k0.lt))
  have HB := hide hb
  obtain ⟨b1, e1⟩ : ∃ b, (((x.p.n : Nat) : Int) != 32) = b := ⟨_, rfl⟩
  obtain ⟨b2, e2⟩ : ∃ b, (((x.t.n : Nat) : Int) != 0) = b := ⟨_, rfl⟩
  obtain ⟨b3, e3⟩ : ∃ b, (((x.t.n : Nat) : Int) != 4) = b := ⟨_, rfl⟩
  obtain ⟨b4, e4⟩ : ∃ b, (((x.r.n : Nat) : Int) != 32) = b := ⟨_, rfl⟩
  obtain ⟨b5, e5⟩ : ∃ b, (((x.g.n : Nat) : Int) != 4) = b := ⟨_, rfl⟩
  obtain ⟨b6, e6⟩ : ∃ b, (((x.e.n : Nat) : Int) != 0) = b := ⟨_, rfl⟩
  obtain ⟨b7, e7⟩ : ∃ b, (((x.e.n : Nat) : Int) != 4) = b := ⟨_, rfl⟩
  have HL : Hid (hdLen h = (b1 || (b2 && b3) || b4 || b5 || (b6 && b7))) := by
    show _ = _
    unfold hdLen
    rw [o.p.1, o.t.1, o.r.1, o.g.1, o.e.1, e1, e2, e3, e4, e5, e6, e7]
  have f1 : (((x.p.n : Nat) : Int) == 32) = !b1 := by rw [← e1]; simp [bne]
  have f4 : (((x.r.n : Nat) : Int) == 32) = !b4 := by rw [← e4]; simp [bne]
  have f5 : (((x.g.n : Nat) : Int) == 4) = !b5 := by rw [← e5]; simp [bne]
  have f6 : (((x.e.n : Nat) : Int) == 0) = !b6 := by rw [← e6]; simp [bne]
  have f7 : (((x.e.n : Nat) : Int) == 4) = !b7 := by rw [← e7]; simp [bne]
  have D1 := hide (fun W => isHash_any x.p.a x.p.n x.p.c W)
  have D2 := hide (fun W => hasAim_to x h b2 b3 W e2 e3)
  have D4 := hide (fun W => isHash_any x.r.a x.r.n x.r.c W)
  have D5 := hide (fun W => isAddr_any x.g.a x.g.n x.g.c W)
  simp only [f1] at D1
  simp only [f4] at D4
  simp only [f5] at D5
  clear o e1 e2 e3 e4 e5 e6 e7 f1 f4 f5 k0 hb
  generalize hdLen h = L at HL
  unfold hvals at e0 ⊢
  go_enter Tryz.func88, Tryz.ntmps88
  go_upto_region 1 with (rw [e0])
  try rw [e0]
  clear e0
  go_cut [3] (fun s wx => s = .bool (!(b6 && b7)) ∧ wx = W0)
  case first =>
    cases b6
    · have f6' : (((x.e.n : Nat) : Int) == 0) = true := f6
      clear f6 f7
      go_wp2_with fail
      go_meet
      exact ⟨rfl, rfl⟩
    · have f6' : (((x.e.n : Nat) : Int) == 0) = false := f6
      clear f6
      go_wp2_with fail
      go_meet
      exact ⟨by simp, rfl⟩
  case rest =>
    obtain ⟨rfl, hwc⟩ := hcut
    rw [hwc]
    clear hwc f6 f7
    generalize hb67 : (b6 && b7) = bs
    rw [hb67] at HL
    clear hb67
    generalize hb23 : (b2 && b3) = bt at D2
    rw [hb23] at HL
    clear hb23
    go_wp2_with fail
    refine ((unhide D1) _).mono ?_
    rintro e w1 ⟨rfl, rfl⟩
    cases b1
    case true =>
      go_wp2_with fail
      go_ret
      exact ⟨ret_bool (by rw [unhide HL]; simp), unhide HB⟩
    go_wp2_with fail
    refine ((unhide D2) _).mono ?_
    rintro e w1 ⟨rfl, b1⟩
    have HB1 := hide ((unhide HB).trans (b1.mono (unhide HB).size))
    cases bt
    case true =>
      go_wp2_with fail
      go_ret
      exact ⟨ret_bool (by rw [unhide HL]; simp), unhide HB1⟩
    obtain ⟨y0, y1, y2, y3, y4, y5, y6, y7, y8, y9, y10⟩ := (unhide HC) _ b1
    clear b1
    go_wp2_with fail
    refine ((unhide D4) _).mono ?_
    rintro e w2 ⟨rfl, rfl⟩
    cases b4
    case true =>
      go_wp2_with fail
      go_ret
      exact ⟨ret_bool (by rw [unhide HL]; simp), unhide HB1⟩
    go_wp2_with fail
    refine ((unhide D5) _).mono ?_
    rintro e w2 ⟨rfl, rfl⟩
    cases b5
    case true =>
      go_wp2_with fail
      go_ret
      exact ⟨ret_bool (by rw [unhide HL]; simp), unhide HB1⟩
    go_wp2_with fail
    go_ret
    exact ⟨ret_bool (by rw [unhide HL]; simp), unhide HB1⟩

set_option maxRecDepth 100000 in
set_option maxHeartbeats 8000000 in
theorem hasNumbers_any (x : HS) (h : Hd) (w : World) :
    Calls Tryz.prog 89 #[.agg (hvals x h)] w fun e w' => e = .returned (.bool (hdNum h)) ∧ Below w.heap.size w w' := by
  have k0 := SBlk.new w (hvals x h) 125
  have hb := below_alloc w (.cells (hvals x h) 125)
  obtain ⟨W0, e0⟩ : ∃ W0, w.alloc (.cells (hvals x h) 125) = W0 := ⟨_, rfl⟩
  rw [e0] at k0 hb
  obtain ⟨x0, x1, x2, x3, x4, x5, x6, x7, x8, x9, x10⟩ := hcells k0
  have HB := hide hb
  obtain ⟨c1, f1⟩ : ∃ c, within h.n1 0 1099511627776 = c := ⟨_, rfl⟩
  obtain ⟨c2, f2⟩ : ∃ c, within h.n2 0 1099511627776 = c := ⟨_, rfl⟩
  obtain ⟨c3, f3⟩ : ∃ c, within h.n3 0 9 = c := ⟨_, rfl⟩
  obtain ⟨c5, f5⟩ : ∃ c, within h.n5 0 2 = c := ⟨_, rfl⟩
  have HN : Hid (hdNum h = (c1 && c2 && c3 && c5)) := by
    show _ = _
    unfold hdNum
    rw [f1, f2, f3, f5]
  have D1 := hide (fun W => isNumber_to h.n1 c1 W f1)
  have D2 := hide (fun W => isNumber_to h.n2 c2 W f2)
  have D3 := hide (fun W => isWithin_to h.n3 0 9 c3 W f3)
  have D5 := hide (fun W => hasNonce_to x h c5 W f5)
  clear f1 f2 f3 f5 k0 hb
  generalize hdNum h = L at HN
  unfold hvals at e0 ⊢
  go_enter Tryz.func89, Tryz.ntmps89
  go_upto_region 1 with (rw [e0])
  try rw [e0]
  clear e0
  go_wp2_with fail
  refine ((unhide D1) _).mono ?_
  rintro e w1 ⟨rfl, rfl⟩
  cases c1
  · go_wp2_with fail
    go_ret
    exact ⟨ret_bool (by rw [unhide HN]; simp), unhide HB⟩
  go_wp2_with fail
  refine ((unhide D2) _).mono ?_
  rintro e w1 ⟨rfl, rfl⟩
  cases c2
  · go_wp2_with fail
    go_ret
    exact ⟨ret_bool (by rw [unhide HN]; simp), unhide HB⟩
  go_wp2_with fail
  refine ((unhide D3) _).mono ?_
  rintro e w1 ⟨rfl, rfl⟩
  cases c3
  · go_wp2_with fail
    go_ret
    exact ⟨ret_bool (by rw [unhide HN]; simp), unhide HB⟩
  go_wp2_with fail
  refine ((unhide D5) _).mono ?_
  rintro e w1 ⟨rfl, b1⟩
  go_wp2_with fail
  go_ret
  exact ⟨ret_bool (by rw [unhide HN]; simp), (unhide HB).trans (b1.mono (unhide HB).size)⟩

set_option maxRecDepth 100000 in
set_option maxHeartbeats 8000000 in
theorem implHeaderFault_any (x : HS) (h : Hd) (w : World) (o : HOk w x h) (m : HSm h) :
    Calls Tryz.prog 71 #[.agg (hvals x h)] w fun e w' => e = .returned (.int .i64 (hdFlt h)) ∧ Below w.heap.size w w' := by
  have k0 := SBlk.new w (hvals x h) 68
  have hb := below_alloc w (.cells (hvals x h) 68)
  obtain ⟨W0, e0⟩ : ∃ W0, w.alloc (.cells (hvals x h) 68) = W0 := ⟨_, rfl⟩
  rw [e0] at k0 hb
  obtain ⟨x0, x1, x2, x3, x4, x5, x6, x7, x8, x9, x10⟩ := hcells k0
  have HO := hide (fun (W : World) (hb : Below w.heap.size w W) => o.below hb (Nat.le_refl _))
  have hsl : x.s.n ≤ 1048576 := by have := o.s.1; have := m.s; omega
  have hkl : x.k.n ≤ 1048576 := by have := o.k.1; have := m.k; omega
  have HE : Hid (hdFlt h = if hdLen h = true then 1 else if hdNum h = false then 3 else if sgFlt h.s = 0 then coFlt h.k else sgFlt h.s) := rfl
  have D1 := hide (fun (W : World) (hb : Below w.heap.size w W) => hasLengths_any x h W ((unhide HO) W hb))
  have D2 := hide (fun (W : World) => hasNumbers_any x h W)
  have D3 := hide (fun (W : World) (hb : Below w.heap.size w W) => votesFault_any x h W ((unhide HO) W hb).s hsl)
  have D4 := hide (fun (W : World) (hb : Below w.heap.size w W) => commitsFault_any x h W ((unhide HO) W hb).k hkl)
  have D0 := hide (blockOf_any x h W0)
  have HB := hide hb
  clear o m hsl hkl HO k0 hb
  generalize hdLen h = L at HE D1
  generalize hdNum h = Nm at HE D2
  generalize sgFlt h.s = q at HE D3
  generalize coFlt h.k = cf at HE D4
  unfold hvals at e0 D0 D1 D2 D4 ⊢
  go_enter Tryz.func71, Tryz.ntmps71
  go_upto_region 1 with (rw [e0])
  try rw [e0]
  clear e0
  go_wp2_with fail
  refine (unhide D0).mono ?_
  rintro e w1 ⟨rfl, b1⟩
  have k1 := SBlk.new w1 (hvals x h) 125
  have hb1 := below_alloc w1 (.cells (hvals x h) 125)
  have hgl : w1.heap.size < (w1.alloc (.cells (hvals x h) 125)).heap.size := by simp
  have HB1 := hide ((unhide HB).trans ((b1.trans (hb1.mono b1.size)).mono (unhide HB).size))
  obtain ⟨W1, e1⟩ : ∃ W1, w1.alloc (.cells (hvals x h) 125) = W1 := ⟨_, rfl⟩
  rw [e1] at k1 HB1 hgl
  obtain ⟨y0, y1, y2, y3, y4, y5, y6, y7, y8, y9, y10⟩ := hcells k1
  have HC := hide (fun (W : World) (hb' : Below W1.heap.size W1 W) => hcells (k1.below hb' k1.lt))
  clear b1 hb1 k1 D0 HB x0 x1 x2 x3 x4 x5 x6 x7 x8 x9 x10
  unfold hvals at e1
  generalize hgb : w1.heap.size = gb at y0 y1 y2 y3 y4 y5 y6 y7 y8 y9 y10 HC hgl ⊢
  go_upto_region 2 with (rw [e1])
  try rw [e1]
  try rw [hgb]
  clear e1 hgb
  go_wp2_with fail
  refine ((unhide D1) _ (unhide HB1)).mono ?_
  rintro e w2 ⟨rfl, b2⟩
  have HB2 := hide ((unhide HB1).trans (b2.mono (unhide HB1).size))
  cases L
  case true =>
    go_wp2_with fail
    go_ret
    exact ⟨ret_int (by rw [unhide HE]; simp), unhide HB2⟩
  have K2 := hide b2
  obtain ⟨z0, z1, z2, z3, z4, z5, z6, z7, z8, z9, z10⟩ := (unhide HC) _ b2
  clear b2 y0 y1 y2 y3 y4 y5 y6 y7 y8 y9 y10
  go_wp2_with fail
  refine ((unhide D2) _).mono ?_
  rintro e w3 ⟨rfl, b3⟩
  have HB3 := hide ((unhide HB2).trans (b3.mono (unhide HB2).size))
  cases Nm
  · go_wp2_with fail
    go_ret
    exact ⟨ret_int (by rw [unhide HE]; simp), unhide HB3⟩
  have K3 := hide ((unhide K2).trans (b3.mono (unhide K2).size))
  obtain ⟨u0, u1, u2, u3, u4, u5, u6, u7, u8, u9, u10⟩ := (unhide HC) _ (unhide K3)
  clear b3 z0 z1 z2 z3 z4 z5 z6 z7 z8 z9 z10 K2 HB2
  go_wp2_with fail
  refine ((unhide D3) _ (unhide HB3)).mono ?_
  rintro e w4 ⟨rfl, b4⟩
  have HB4 := hide ((unhide HB3).trans (b4.mono (unhide HB3).size))
  have K4 := hide ((unhide K3).trans (b4.mono (unhide K3).size))
  clear b4 u0 u1 u2 u3 u4 u5 u6 u7 u8 u9 u10
  by_cases hq : q = 0
  · subst hq
    obtain ⟨v0, v1, v2, v3, v4, v5, v6, v7, v8, v9, v10⟩ := (unhide HC) _ (unhide K4)
    go_wp2_with fail
    refine ((unhide D4) _ (unhide HB4)).mono ?_
    rintro e w5 ⟨rfl, b5⟩
    go_wp2_with fail
    go_ret
    exact ⟨ret_int (by rw [unhide HE]; simp), (unhide HB4).trans (b5.mono (unhide HB4).size)⟩
  · have hne : (q != 0) = true := by simp [hq]
    go_wp2_with fail
    go_ret
    exact ⟨ret_int (by rw [unhide HE]; simp [hq]), unhide HB4⟩

end Go.Proofs.YtldiilmpmcbjkaaGreatDoor

/- What is proved here: what the program's PackHeader answers: the fault of a header, or its bytes in new memory. -/
namespace Go.Proofs.YtldiilmpmcbjkaaGreatDoor
open Go.RowKit
set_option linter.unusedVariables false
set_option maxRecDepth 100000

/-- What PackHeader answers. -/
def pkBytes (h : Hd) : List Int := if hdFlt h = 0 then packL h else []

set_option maxRecDepth 100000 in
set_option maxHeartbeats 8000000 in
theorem implPack_any (x : HS) (h : Hd) (w : World) (o : HOk w x h) (nn : HNil w x) (m : HSm h) :
    Calls Tryz.prog 94 #[.agg (hvals x h)] w fun e w' => ∃ a c, e = .returned (.agg #[.int .i64 (hdFlt h), .slice a (pkBytes h).length c]) ∧
      w'.ownsRow w.heap.size 5 1 (.slice a (pkBytes h).length c) (pkBytes h).length ((pkBytes h).map (Value.int .u8)) ∧ Below w.heap.size w w' := by
  have kb := SBlk.new w (hvals x h) 68
  have bb := below_alloc w (.cells (hvals x h) 68)
  have zb : (w.alloc (.cells (hvals x h) 68)).heap.size = w.heap.size + 1 := by simp
  obtain ⟨W0, eb⟩ : ∃ W0, w.alloc (.cells (hvals x h) 68) = W0 := ⟨_, rfl⟩
  rw [eb] at kb bb zb
  have k1 := (kb.next (.cells #[.int .i64 0, .slice none 0 0] 111))
  have kr := SBlk.new W0 #[.int .i64 0, .slice none 0 0] 111
  have b1 := bb.alloc bb.size (.cells #[.int .i64 0, .slice none 0 0] 111)
  have z1 : (W0.alloc (.cells #[.int .i64 0, .slice none 0 0] 111)).heap.size = w.heap.size + 2 := by simp; omega
  rw [zb] at kr
  obtain ⟨W1, e1⟩ : ∃ W1, W0.alloc (.cells #[.int .i64 0, .slice none 0 0] 111) = W1 := ⟨_, rfl⟩
  rw [e1] at k1 kr b1 z1
  have HCB := hide (fun (W' : World) (hb : Below W1.heap.size W1 W') => hcells (k1.below hb k1.lt))
  have HRB := hide (fun (W' : World) (hb : Below W1.heap.size W1 W') => kr.below hb kr.lt)
  have HON := hide (fun (W' : World) (hb : Below w.heap.size w W') => And.intro (o.below hb (Nat.le_refl _)) (nn.below hb (Nat.le_refl _)))
  have D1 := hide (implHeaderFault_any x h W1 (o.below b1 (Nat.le_refl _)) m)
  have HB1 := hide b1
  obtain ⟨x0, x1, x2, x3, x4, x5, x6, x7, x8, x9, x10⟩ := hcells k1
  have hz2 : w.heap.size + 1 < W1.heap.size := by omega
  clear o nn m kb bb k1 kr b1 zb
  have HD0 := hide (fun (W' : World) => blockOf_any x h W')
  have HIT : Hid (hdFlt h = 0 → ∀ (W' : World), Below w.heap.size w W' → Calls Tryz.prog 119 #[.agg (hvals x h)] W' fun e w' => ∃ a c, e = .returned (.slice a (hIts h).length c) ∧ ItRowN w' a (hIts h).length (hIts h) ∧ Below W'.heap.size W' w') := fun hf W' hb => items_any x h (good_of hf) W' ((unhide HON) W' hb).1 ((unhide HON) W' hb).2
  have HEN : Hid (hdFlt h = 0 → ∀ (W' : World) (a : Option Addr) (c : Nat), ItRowN W' a (hIts h).length (hIts h) → Calls Tryz.prog 118 #[.slice a (hIts h).length c] W' fun e w' => ∃ a' c', e = .returned (.agg #[.int .i64 0, .slice a' (packL h).length c']) ∧ w'.ownsRow W'.heap.size 5 1 (.slice a' (packL h).length c') (packL h).length ((packL h).map (Value.int .u8)) ∧ Below W'.heap.size W' w') := fun hf W' a c hr => by
    have gd := good_of hf
    obtain ⟨q1, q2⟩ := en_header gd
    have hl := hIts_len h
    have g1 := gd.s
    have g2 := gd.k
    have := implEnc_any a (hIts h).length c (hIts h) W' hr (by omega)
    rw [q1, q2] at this
    exact this
  have HPB : Hid (pkBytes h = if hdFlt h = 0 then packL h else []) := rfl
  clear HON
  generalize hdFlt h = q at D1 HIT HEN HPB ⊢
  generalize hIts h = IT at HIT HEN
  generalize IT.length = il at HIT HEN
  generalize packL h = PL at HEN HPB
  generalize pkBytes h = PB at HPB ⊢
  unfold hvals at eb D1 HD0 HIT ⊢
  have EB := hide eb
  have E1 := hide e1
  clear eb e1
  go_enter Tryz.func94, Tryz.ntmps94
  go_upto_region 1 with fail
  rw [unhide EB, unhide E1]
  clear EB E1
  go_wp2_with fail
  refine (unhide D1).mono ?_
  rintro e w2 ⟨rfl, b2⟩
  have kr2 := (unhide HRB) w2 b2
  have r0 := kr2.cell 0
  have r1 := kr2.cell 1
  have f0 := kr2.free 0
  have f1 := kr2.free 1
  simp only [List.getElem?_cons_zero, List.getElem?_cons_succ] at r0 r1
  have HB2 := hide ((unhide HB1).trans (b2.mono (unhide HB1).size))
  have K2 := hide b2
  clear b2 kr2 x0 x1 x2 x3 x4 x5 x6 x7 x8 x9 x10 D1
  by_cases hq : q = 0
  · subst hq
    have HPB2 : Hid (PB = PL) := by show _ = _; rw [unhide HPB, if_pos rfl]
    obtain ⟨y0, y1, y2, y3, y4, y5, y6, y7, y8, y9, y10⟩ := (unhide HCB) w2 (unhide K2)
    go_wp2_with fail
    refine ((unhide HD0) _).mono ?_
    rintro e w3 ⟨rfl, b3⟩
    have HB3 := hide ((unhide HB2).trans (b3.mono (unhide HB2).size))
    have K3 := hide ((unhide K2).trans (b3.mono (unhide K2).size))
    clear b3 y0 y1 y2 y3 y4 y5 y6 y7 y8 y9 y10
    go_wp2_with fail
    refine ((unhide HIT) (by first | exact rfl | trivial) _ (unhide HB3)).mono ?_
    rintro e w4 ⟨a4, c4, rfl, row4, b4⟩
    have HB4 := hide ((unhide HB3).trans (b4.mono (unhide HB3).size))
    have K4 := hide ((unhide K3).trans (b4.mono (unhide K3).size))
    clear b4
    go_wp2_with fail
    refine ((unhide HEN) (by first | exact rfl | trivial) _ a4 c4 row4).mono ?_
    rintro e w5 ⟨a5, c5, rfl, o5, b5⟩
    have HB5 := hide ((unhide HB4).trans (b5.mono (unhide HB4).size))
    have K5 := (unhide K4).trans (b5.mono (unhide K4).size)
    have kr5 := (unhide HRB) w5 K5
    have s0 := kr5.cell 0
    have s1 := kr5.cell 1
    have g0 := kr5.free 0
    have g1 := kr5.free 1
    simp only [List.getElem?_cons_zero, List.getElem?_cons_succ] at s0 s1
    have hz4 : w.heap.size + 1 < w4.heap.size := Nat.lt_of_lt_of_le hz2 (unhide K4).size
    have HO5 := hide o5
    have hwz : w.heap.size ≤ w4.heap.size := (unhide HB4).size
    clear K5 kr5 o5 b5 row4 r0 r1 f0 f1
    go_wp2_with fail
    refine bodyPost_ret (v := .agg #[.int .i64 0, .slice a5 PL.length c5]) (by simp [results, Tryz.results94, go_sem, s0, s1]) rfl ⟨a5, c5, by rw [unhide HPB2], ?_, ?_⟩
    · rw [unhide HPB2]
      exact ownsRow_base (ownsRow_setCell_below (ownsRow_setCell_below (unhide HO5) (by show w.heap.size + 1 < w4.heap.size; omega) _) (by show w.heap.size + 1 < w4.heap.size; omega) _) hwz
    · exact ((unhide HB5).setCell (p := ⟨w.heap.size + 1, _, none⟩) (by show w.heap.size ≤ w.heap.size + 1; omega) _).setCell (p := ⟨w.heap.size + 1, _, none⟩) (by show w.heap.size ≤ w.heap.size + 1; omega) _
  · have hne : (q != 0) = true := by simp [hq]
    have HPB2 : Hid (PB = []) := by show _ = _; rw [unhide HPB, if_neg hq]
    clear hq
    go_wp2_with fail
    refine bodyPost_ret (v := .agg #[.int .i64 q, .slice none 0 0]) (by simp [results, Tryz.results94, go_sem, r0, r1]) rfl ⟨none, 0, by rw [unhide HPB2]; rfl, ?_, ?_⟩
    · rw [unhide HPB2]; exact World.ownsRow_nil _ _ _ _
    · exact ((unhide HB2).setCell (p := ⟨w.heap.size + 1, _, none⟩) (by show w.heap.size ≤ w.heap.size + 1; omega) _).setCell (p := ⟨w.heap.size + 1, _, none⟩) (by show w.heap.size ≤ w.heap.size + 1; omega) _

end Go.Proofs.YtldiilmpmcbjkaaGreatDoor

/- What is proved here: plain facts on a header's copy and on its bytes, for the law on PackHeader. -/
namespace Go.Proofs.YtldiilmpmcbjkaaGreatDoor
open Go.RowKit
set_option linter.unusedVariables false
set_option maxRecDepth 100000

theorem HOwn.nilOk {w : World} {B : Nat} {x : HS} {h : Hd} (o : HOwn w B x h) : HNil w x := by
  obtain ⟨g1, g2, g3, g4, g5, g6, g7, rfl, _, o1, o2, o3, o4, o5, o6, o7⟩ := o
  exact ⟨fun e => (by cases e), fun e => (by cases e), OBss.nilOk o3, fun e => (by cases e), fun e => (by cases e), fun e => (by cases e), OBss.nilOk o7⟩

theorem pk_range {w : World} {x : HS} {h : Hd} (o : HOk w x h) : ∀ y ∈ pkBytes h, 0 ≤ y ∧ y ≤ 255 := by
  unfold pkBytes
  split
  · rename_i hf
    have gd := good_of hf
    refine wrapL_range (bd6 h) (by have := (bd_length gd).2.2.2.2.2; omega) ?_
    intro y hy
    unfold bd6 bd5 bd4 bd3 bd2 bd1 at hy
    simp only [List.mem_append] at hy
    have hp := pcL_range h.p (by have := gd.p; omega) o.p.2.1 y
    have h1 := pcL_range (shortF 7 h.n1) (by have := sh_length h.n1; omega) (shortF_range 7 _) y
    have h2 := pcL_range (shortF 7 h.n2) (by have := sh_length h.n2; omega) (shortF_range 7 _) y
    have h3 := pcL_range (shortF 7 h.n3) (by have := sh_length h.n3; omega) (shortF_range 7 _) y
    have ht := pcL_range h.t (by have := gd.t; omega) o.t.2.1 y
    have h5 := pcL_range (shortF 7 h.n5) (by have := sh_length h.n5; omega) (shortF_range 7 _) y
    have hs := wrapL_range (pcsL h.s) (by have := pcsL_length h.s gd.sz; have := gd.s; omega) (pcsL_range h.s gd.sz o.s.bytes) y
    have hr := pcL_range h.r (by have := gd.r; omega) o.r.2.1 y
    have hg := pcL_range h.g (by have := gd.g; omega) o.g.2.1 y
    have he := pcL_range h.e (by have := gd.e; omega) o.e.2.1 y
    have hk := wrapL_range (pcsL h.k) (by have := pcsL_length h.k gd.kz; have := gd.k; omega) (pcsL_range h.k gd.kz o.k.bytes) y
    rcases hy with ((((((((((hy | hy) | hy) | hy) | hy) | hy) | hy) | hy) | hy) | hy) | hy)
    · exact hp hy
    · exact h1 hy
    · exact h2 hy
    · exact h3 hy
    · exact ht hy
    · exact h5 hy
    · exact hs hy
    · exact hr hy
    · exact hg hy
    · exact he hy
    · exact hk hy
  · intro y hy; simp at hy

theorem pk_length (h : Hd) : (pkBytes h).length ≤ 1200 := by
  unfold pkBytes
  split
  · rename_i hf
    have h1 := wrapL_length (bd6 h)
    have h2 := (bd_length (good_of hf)).2.2.2.2.2
    unfold packL
    omega
  · simp

end Go.Proofs.YtldiilmpmcbjkaaGreatDoor

/- What is proved here: plain facts on bytes that are padded to a multiple of 136; no program is named. -/
namespace Go.Proofs.YtldiilmpmcbjkaaGreatDoor
set_option linter.unusedVariables false
set_option maxRecDepth 100000

/-- How many bytes there are behind the padding. -/
def padLen (n : Nat) : Nat := 136 * (n / 136 + 1)

theorem padLen_lt (n : Nat) : n < padLen n ∧ padLen n ≤ n + 136 ∧ padLen n % 136 = 0 := by unfold padLen; omega

theorem padLen_first (n m : Nat) (h1 : n < m) (h2 : m ≤ padLen n) (h3 : m % 136 = 0) : m = padLen n := by unfold padLen at h2 ⊢; omega

/-- The last byte of the padding. -/
def padLast (n : Nat) : Int := if n + 1 = padLen n then 129 else 128

/-- The bytes, a byte 1, and k zeros. -/
def padRaw (zs : List Int) (k : Nat) : List Int := zs ++ 1 :: List.replicate k 0

/-- Padded bytes. -/
def padB (zs : List Int) : List Int := (padRaw zs (padLen zs.length - zs.length - 1)).set (padLen zs.length - 1) (padLast zs.length)

theorem padRaw_length (zs : List Int) (k : Nat) : (padRaw zs k).length = zs.length + 1 + k := by simp [padRaw]; omega

theorem padRaw_succ (zs : List Int) (k : Nat) : padRaw zs (k + 1) = padRaw zs k ++ [0] := by
  unfold padRaw
  rw [List.replicate_succ', List.append_assoc]
  rfl

theorem padB_length (zs : List Int) : (padB zs).length = padLen zs.length := by
  have := padLen_lt zs.length
  unfold padB
  rw [List.length_set, padRaw_length]
  omega

theorem padRaw_range (zs : List Int) (k : Nat) (h : ∀ x ∈ zs, 0 ≤ x ∧ x ≤ 255) : ∀ x ∈ padRaw zs k, 0 ≤ x ∧ x ≤ 255 := by
  intro x hx
  unfold padRaw at hx
  rcases List.mem_append.1 hx with hx | hx
  · exact h x hx
  · rcases List.mem_cons.1 hx with rfl | hx
    · omega
    · rw [List.eq_of_mem_replicate hx]; omega

theorem padB_range (zs : List Int) (h : ∀ x ∈ zs, 0 ≤ x ∧ x ≤ 255) : ∀ x ∈ padB zs, 0 ≤ x ∧ x ≤ 255 := by
  intro x hx
  rcases List.mem_or_eq_of_mem_set hx with h' | h'
  · exact padRaw_range zs _ h x h'
  · subst h'; unfold padLast; split <;> omega

/-- What stands last ahead of the xor. -/
theorem padRaw_last (zs : List Int) : (padRaw zs (padLen zs.length - zs.length - 1)).getD (padLen zs.length - 1) 0 = if zs.length + 1 = padLen zs.length then 1 else 0 := by
  have hp := padLen_lt zs.length
  have hl := padRaw_length zs (padLen zs.length - zs.length - 1)
  rw [getD_at _ _ (by omega)]
  unfold padRaw
  rw [List.getElem_append_right (by omega)]
  split
  · rename_i he
    have e : padLen zs.length - 1 - zs.length = 0 := by omega
    simp [e]
  · rename_i he
    obtain ⟨q, hq⟩ : ∃ q, padLen zs.length - 1 - zs.length = q + 1 := ⟨padLen zs.length - 2 - zs.length, by omega⟩
    simp [hq]

end Go.Proofs.YtldiilmpmcbjkaaGreatDoor

/- What is proved here: plain facts on bytes soaked into a state of lanes, and what KeccakOf answers; no program is named. -/
namespace Go.Proofs.YtldiilmpmcbjkaaGreatDoor
open Go.RowKit
set_option linter.unusedVariables false
set_option maxRecDepth 100000

/-- The k lowest bytes of a lane. -/
def lowB (b : Nat → Nat) : Nat → Nat
  | 0 => 0
  | k + 1 => lowB b k + b k * 2 ^ (8 * k)

theorem lowB_lt (b : Nat → Nat) (hb : ∀ i, b i < 256) : ∀ k, lowB b k < 2 ^ (8 * k)
  | 0 => by simp [lowB]
  | k + 1 => by
    have i := lowB_lt b hb k
    have h := hb k
    unfold lowB
    have e : 2 ^ (8 * (k + 1)) = 256 * 2 ^ (8 * k) := by rw [show 8 * (k + 1) = 8 * k + 8 by omega, Nat.pow_add, Nat.mul_comm]
    rw [e]
    have m : (b k + 1) * 2 ^ (8 * k) ≤ 256 * 2 ^ (8 * k) := Nat.mul_le_mul_right _ (by omega)
    rw [Nat.add_mul] at m
    omega

/-- Byte i behind a place. -/
def byteN (bs : List Int) (p i : Nat) : Nat := (bs.getD (p + i) 0).toNat

/-- The lane that begins at a place of bytes. -/
def laneB (bs : List Int) (p : Nat) : Nat := lowB (byteN bs p) 8

theorem byteN_lt {bs : List Int} (h : ∀ x ∈ bs, 0 ≤ x ∧ x ≤ 255) (p i : Nat) : byteN bs p i < 256 := by
  unfold byteN
  rw [List.getD_eq_getElem?_getD]
  cases e : bs[p + i]? with
  | none => simp
  | some x => have := h x (List.mem_of_getElem? e); simp; omega

theorem byteN_cast {bs : List Int} (h : ∀ x ∈ bs, 0 ≤ x ∧ x ≤ 255) (p i : Nat) : ((byteN bs p i : Nat) : Int) = bs.getD (p + i) 0 := by
  unfold byteN
  rw [List.getD_eq_getElem?_getD]
  cases e : bs[p + i]? with
  | none => simp
  | some x => have := h x (List.mem_of_getElem? e); simp; omega

theorem laneB_lt {bs : List Int} (h : ∀ x ∈ bs, 0 ≤ x ∧ x ≤ 255) (p : Nat) : laneB bs p < 18446744073709551616 := lowB_lt _ (byteN_lt h p) 8

theorem laneB_words {bs : List Int} (h : ∀ x ∈ bs, 0 ≤ x ∧ x ≤ 255) (p : Nat) :
    (hiW (laneB bs p) : Int) = bs.getD (p + 4) 0 + bs.getD (p + 5) 0 * 256 + bs.getD (p + 6) 0 * 65536 + bs.getD (p + 7) 0 * 16777216 ∧
    (loW (laneB bs p) : Int) = bs.getD (p + 0) 0 + bs.getD (p + 1) 0 * 256 + bs.getD (p + 2) 0 * 65536 + bs.getD (p + 3) 0 * 16777216 := by
  have c0 := byteN_cast h p 0
  have c1 := byteN_cast h p 1
  have c2 := byteN_cast h p 2
  have c3 := byteN_cast h p 3
  have c4 := byteN_cast h p 4
  have c5 := byteN_cast h p 5
  have c6 := byteN_cast h p 6
  have c7 := byteN_cast h p 7
  have l0 := byteN_lt h p 0
  have l1 := byteN_lt h p 1
  have l2 := byteN_lt h p 2
  have l3 := byteN_lt h p 3
  have l4 := byteN_lt h p 4
  have l5 := byteN_lt h p 5
  have l6 := byteN_lt h p 6
  have l7 := byteN_lt h p 7
  rw [← c0, ← c1, ← c2, ← c3, ← c4, ← c5, ← c6, ← c7]
  unfold hiW loW laneB
  simp only [lowB]
  generalize byteN bs p 0 = x0 at *
  generalize byteN bs p 1 = x1 at *
  generalize byteN bs p 2 = x2 at *
  generalize byteN bs p 3 = x3 at *
  generalize byteN bs p 4 = x4 at *
  generalize byteN bs p 5 = x5 at *
  generalize byteN bs p 6 = x6 at *
  generalize byteN bs p 7 = x7 at *
  clear c0 c1 c2 c3 c4 c5 c6 c7
  omega

/-- A block soaked into a state, lane by lane. -/
def soakAt (Z : List Nat) (bs : List Int) (p : Nat) : Nat → List Nat
  | 0 => Z
  | i + 1 => (soakAt Z bs p i).set i ((soakAt Z bs p i).getD i 0 ^^^ laneB bs (p + i * 8))

theorem soakAt_length (Z : List Nat) (bs : List Int) (p : Nat) : ∀ i, (soakAt Z bs p i).length = Z.length
  | 0 => rfl
  | i + 1 => by unfold soakAt; rw [List.length_set, soakAt_length Z bs p i]

theorem soakAt_lanes {Z : List Nat} {bs : List Int} (hZ : Lanes Z) (h : ∀ x ∈ bs, 0 ≤ x ∧ x ≤ 255) (p : Nat) : ∀ i, Lanes (soakAt Z bs p i)
  | 0 => hZ
  | i + 1 => by
    have ih := soakAt_lanes hZ h p i
    refine ⟨by rw [soakAt_length]; exact hZ.1, fun z hz => ?_⟩
    unfold soakAt at hz
    rcases List.mem_or_eq_of_mem_set hz with e | e
    · exact ih.2 z e
    · rw [e]
      have := getD_lt ih.2 (by decide) i
      exact Nat.xor_lt_two_pow (n := 64) this (laneB_lt h _)

/-- The state behind n blocks. -/
def spAt (bs : List Int) : Nat → List Nat
  | 0 => List.replicate 25 0
  | n + 1 => mixAt (soakAt (spAt bs n) bs (136 * n) 17) 24

theorem spAt_lanes {bs : List Int} (h : ∀ x ∈ bs, 0 ≤ x ∧ x ≤ 255) : ∀ n, Lanes (spAt bs n)
  | 0 => ⟨by simp [spAt], fun z hz => by rw [spAt] at hz; rw [List.eq_of_mem_replicate hz]; decide⟩
  | n + 1 => mixAt_lanes (soakAt_lanes (spAt_lanes h n) h _ 17) 24

/-- A block taken out of the bytes. -/
theorem laneB_block (bs : List Int) (p q : Nat) (hq : q + 8 ≤ 136) : laneB ((bs.drop p).take 136) q = laneB bs (p + q) := by
  have e : ∀ k, k ≤ 8 → lowB (byteN ((bs.drop p).take 136) q) k = lowB (byteN bs (p + q)) k := by
    intro k
    induction k with
    | zero => intro _; rfl
    | succ k ih =>
      intro hk
      unfold lowB
      rw [ih (by omega)]
      have : byteN ((bs.drop p).take 136) q k = byteN bs (p + q) k := by
        unfold byteN
        rw [List.getD_eq_getElem?_getD, List.getD_eq_getElem?_getD, List.getElem?_take_of_lt (by omega), List.getElem?_drop, Nat.add_assoc]
      rw [this]
  exact e 8 (Nat.le_refl _)

theorem soakAt_block (Z : List Nat) (bs : List Int) (p : Nat) : ∀ i, i ≤ 17 → soakAt Z ((bs.drop p).take 136) 0 i = soakAt Z bs p i
  | 0, _ => rfl
  | i + 1, h => by
    unfold soakAt
    rw [soakAt_block Z bs p i (by omega), Nat.zero_add, laneB_block bs p (i * 8) (by omega)]

/-- The 32 bytes of a state. -/
def hashOf (Z : List Nat) : List Int := (List.range 32).map fun i => ((Z.getD (i / 8) 0 / 2 ^ (8 * (i % 8)) % 256 : Nat) : Int)

theorem hashOf_length (Z : List Nat) : (hashOf Z).length = 32 := by simp [hashOf]

/-- What KeccakOf answers. -/
def kcCode (zs : List Int) : Int := if 1200 < zs.length then 2 else 0
def kcBytes (zs : List Int) : List Int := if 1200 < zs.length then [] else hashOf (spAt (padB zs) (padLen zs.length / 136))

theorem kcBytes_length (zs : List Int) : (kcBytes zs).length ≤ 32 := by
  unfold kcBytes; split
  · simp
  · rw [hashOf_length]; omega

theorem kcBytes_range (zs : List Int) (h : ∀ x ∈ zs, 0 ≤ x ∧ x ≤ 255) : ∀ x ∈ kcBytes zs, 0 ≤ x ∧ x ≤ 255 := by
  unfold kcBytes; split
  · intro x hx; simp at hx
  · intro x hx
    obtain ⟨i, _, rfl⟩ := List.mem_map.1 hx
    omega

end Go.Proofs.YtldiilmpmcbjkaaGreatDoor

/- What is proved here: plain facts on what a header is hashed to: without its commits, and without its seal; no program is named. -/
namespace Go.Proofs.YtldiilmpmcbjkaaGreatDoor
open Go.RowKit
set_option linter.unusedVariables false
set_option maxRecDepth 100000

/-- A header without commits, and its slices. -/
def noK (h : Hd) : Hd := { h with k := [] }
def xNoK (x : HS) : HS := { x with k := ⟨none, 0, 0⟩ }
/-- A header without its seal, and its slices. -/
def noE (h : Hd) : Hd := { h with e := [] }
def xNoE (x : HS) : HS := { x with e := ⟨none, 0, 0⟩ }

theorem hdFlt_noK {h : Hd} (hf : hdFlt h = 0) : hdFlt (noK h) = 0 := by
  unfold hdFlt at hf ⊢
  have e1 : hdLen (noK h) = hdLen h := rfl
  have e2 : hdNum (noK h) = hdNum h := rfl
  have e3 : (noK h).s = h.s := rfl
  have e4 : coFlt (noK h).k = 0 := by simp [noK, coFlt, coFrom]
  rw [e1, e2, e3, e4]
  split at hf
  · omega
  · rename_i h1
    rw [if_neg h1]
    split at hf
    · omega
    · rename_i h2
      rw [if_neg h2]
      split at hf
      · rename_i h3; rw [if_pos h3]
      · rename_i h3; exact absurd hf h3

theorem hdFlt_noE {h : Hd} (hf : hdFlt h = 0) : hdFlt (noE h) = 0 := by
  have hl : hdLen h = false := by
    cases hh : hdLen h with
    | false => rfl
    | true => unfold hdFlt at hf; rw [if_pos hh] at hf; omega
  have e1 : hdLen (noE h) = false := by
    unfold hdLen at hl ⊢
    simp only [Bool.or_eq_false_iff] at hl ⊢
    exact ⟨hl.1, by simp [noE]⟩
  have e2 : hdNum (noE h) = hdNum h := rfl
  have e3 : (noE h).s = h.s := rfl
  have e4 : (noE h).k = h.k := rfl
  unfold hdFlt at hf ⊢
  rw [e1, e2, e3, e4]
  rw [hl] at hf
  exact hf

theorem BRow.nil0 (w : World) : BRow w none 0 [] := ⟨rfl, fun n hn => by simp at hn, fun _ => rfl, fun y hy => by cases hy⟩
theorem BsRow.nil0 (w : World) : BsRow w none 0 [] := ⟨rfl, fun z hz => by simp at hz, fun hp => absurd hp (Nat.lt_irrefl _)⟩

theorem HOk.noK {w : World} {x : HS} {h : Hd} (o : HOk w x h) : HOk w (xNoK x) (noK h) := ⟨o.p, o.t, o.s, o.r, o.g, o.e, BsRow.nil0 w⟩
theorem HOk.noE {w : World} {x : HS} {h : Hd} (o : HOk w x h) : HOk w (xNoE x) (noE h) := ⟨o.p, o.t, o.s, o.r, o.g, BRow.nil0 w, o.k⟩
theorem HNil.noK {w : World} {x : HS} (o : HNil w x) : HNil w (xNoK x) := ⟨o.p, o.t, o.s, o.r, o.g, o.e, fun b off e => by cases e⟩
theorem HNil.noE {w : World} {x : HS} (o : HNil w x) : HNil w (xNoE x) := ⟨o.p, o.t, o.s, o.r, o.g, fun _ => rfl, o.k⟩
theorem HSm.noK {h : Hd} (o : HSm h) : HSm (noK h) := ⟨o.p, o.t, o.s, o.sz, o.r, o.g, o.e, Nat.zero_le _, fun z hz => by simp [Go.Proofs.YtldiilmpmcbjkaaGreatDoor.noK] at hz⟩
theorem HSm.noE {h : Hd} (o : HSm h) : HSm (noE h) := ⟨o.p, o.t, o.s, o.sz, o.r, o.g, Nat.zero_le _, o.k, o.kz⟩

/-- What HashOf and SealHash answer. -/
def hsBytes (h : Hd) : List Int := if hdFlt h = 0 then kcBytes (packL (noK h)) else []
def shBytes (h : Hd) : List Int := if hdFlt h = 0 then kcBytes (packL (noK (noE h))) else []

theorem pkBytes_good {h : Hd} (hf : hdFlt h = 0) : pkBytes h = packL h := if_pos hf

theorem packL_le {h : Hd} (hf : hdFlt h = 0) : (packL h).length ≤ 1200 := by
  have := pk_length h
  rw [pkBytes_good hf] at this
  exact this

theorem packL_pos (h : Hd) : 0 < (packL h).length := wrapL_pos _

theorem packL_rng {w : World} {x : HS} {h : Hd} (hf : hdFlt h = 0) (o : HOk w x h) : ∀ y ∈ packL h, 0 ≤ y ∧ y ≤ 255 := by
  have := pk_range o
  rw [pkBytes_good hf] at this
  exact this

theorem kcCode_good {z : List Int} (h : z.length ≤ 1200) : kcCode z = 0 := if_neg (by omega)

theorem kcBytes_good {z : List Int} (h : z.length ≤ 1200) : (kcBytes z).length = 32 := by
  unfold kcBytes
  rw [if_neg (by omega), hashOf_length]

theorem hs_length (h : Hd) : (hsBytes h).length ≤ 32 := by
  unfold hsBytes; split
  · exact kcBytes_length _
  · simp

theorem shh_length (h : Hd) : (shBytes h).length ≤ 32 := by
  unfold shBytes; split
  · exact kcBytes_length _
  · simp

theorem hs_range {w : World} {x : HS} {h : Hd} (o : HOk w x h) : ∀ y ∈ hsBytes h, 0 ≤ y ∧ y ≤ 255 := by
  unfold hsBytes; split
  · rename_i hf; exact kcBytes_range _ (packL_rng (hdFlt_noK hf) o.noK)
  · intro y hy; simp at hy

theorem shh_range {w : World} {x : HS} {h : Hd} (o : HOk w x h) : ∀ y ∈ shBytes h, 0 ≤ y ∧ y ≤ 255 := by
  unfold shBytes; split
  · rename_i hf; exact kcBytes_range _ (packL_rng (hdFlt_noK (hdFlt_noE hf)) o.noE.noK)
  · intro y hy; simp at hy

theorem shBytes_eq {h : Hd} (hf : hdFlt h = 0) : shBytes h = hsBytes (noE h) := by
  unfold shBytes hsBytes
  rw [if_pos hf, if_pos (hdFlt_noE hf)]

end Go.Proofs.YtldiilmpmcbjkaaGreatDoor

/- What is proved here: what the program says of the type int64. -/
namespace Go.Proofs.YtldiilmpmcbjkaaGreatDoor

theorem info2 : (Tryz.prog.info? 2).map (fun i => (i.zero, i.size, i.bytes)) = some (some (.int .i64 0), 1, 8) := by kernel_rfl

end Go.Proofs.YtldiilmpmcbjkaaGreatDoor

/- What is proved here: WideOf of the program and of the model, for every number. -/
namespace Go.Proofs.YtldiilmpmcbjkaaGreatDoor
open Go.RowKit
set_option linter.unusedVariables false
set_option maxRecDepth 100000

/-- The limbs of a number, and what is left of it behind some of them. -/
def wofList (n : Int) : List Int := [n % 4294967296, n / 4294967296, 0, 0, 0, 0, 0, 0]
def wofRest (n : Int) (k : Nat) : Int := if k = 0 then n else if k = 1 then n / 4294967296 else 0
def woCode (n : Int) : Int := if n < 0 then 3 else 0
def woList (n : Int) : List Int := if n < 0 then [] else wofList n

theorem woList_length (n : Int) : (woList n).length ≤ 8 := by unfold woList; split <;> simp [wofList]

theorem wraps_i64 (n : Int) (h₀ : 0 ≤ n) (h₁ : n < 2 ^ 63) : IntKind.i64.wrap n = n := by rw [IntKind.wrap_i64]; omega

theorem and_word (n : Int) (h0 : 0 ≤ n) (h1 : n < 9223372036854775808) : bits .and .i64 n 4294967295 = n % 4294967296 := by
  have := bits_mask .i64 63 (by decide) wraps_i64 32 (by decide) n h0 (by omega)
  rw [show (2 : Int) ^ 32 - 1 = 4294967295 by decide] at this
  rw [this, show (2 : Int) ^ 32 = 4294967296 by decide]

theorem wof_at (n : Int) (h0 : 0 ≤ n) (h1 : n < 9223372036854775808) (k : Nat) (hk : k < 8) : wofRest n k % 4294967296 = (wofList n).getD k 0 ∧ wofRest n k / 4294967296 = wofRest n (k + 1) ∧ 0 ≤ wofRest n k ∧ wofRest n k < 9223372036854775808 := by
  match k, hk with
  | 0, _ => simp [wofRest, wofList]; omega
  | 1, _ => simp [wofRest, wofList]; omega
  | k + 2, hk =>
    have : (wofList n).getD (k + 2) 0 = 0 := by
      match k, hk with
      | 0, _ | 1, _ | 2, _ | 3, _ | 4, _ | 5, _ => rfl
    rw [this]
    simp [wofRest]

set_option maxHeartbeats 2000000 in
theorem implWideOf_any (n : Int) (hlo : -9223372036854775808 ≤ n) (hhi : n < 9223372036854775808) (w : World) :
    Calls Tryz.prog 120 #[.int .i64 n] w fun e w' => ∃ a' cap', e = .returned (.agg #[.int .i64 (woCode n), .slice a' (woList n).length cap']) ∧
      w'.ownsRow w.heap.size 2 1 (.slice a' (woList n).length cap') (woList n).length ((woList n).map (Value.int .i64)) ∧ Below w.heap.size w w' := by
  by_cases hm : n < 0
  · have e1 : woCode n = 3 := if_pos hm
    have e2 : woList n = [] := if_pos hm
    rw [e1, e2]
    clear e1 e2
    go_enter Tryz.func120, Tryz.ntmps120
    go_wp2_with fail
    exact bodyPost_ret (v := .agg #[.int .i64 3, .slice none 0 0]) (by simp [results, Tryz.results120, go_sem]) rfl ⟨none, 0, rfl, World.ownsRow_nil _ _ _ _, (Below.refl _ _).alloc (Nat.le_refl _) _⟩
  · have e1 : woCode n = 0 := if_neg hm
    have e2 : woList n = wofList n := if_neg hm
    rw [e1, e2, show (wofList n).length = 8 from rfl]
    obtain ⟨i0, hi, hz0, hz1, hz2⟩ := info_parts info2
    have WA := hide (wof_at n (by omega) hhi)
    have hzl : (wofList n).length = 8 := rfl
    have w0e : wofRest n 0 = n := rfl
    clear e1 e2
    generalize wofList n = zs at *
    go_enter Tryz.func120, Tryz.ntmps120
    go_wp2_with (at_make; refine wpList_make_full _ rfl _ _ 28 rfl (w.heap.size + 1) 2 i0 (.int .i64 0) 1 Tryz.underlying28 hi hz0 hz1 _ _ _ _ 8 rfl rfl (by omega) (by omega) ?c1 ?c2 ?c3 ?_)
    case c2 => unfold maxLen; omega
    intro w1 hown hgrow
    have hb0 := below_alloc w (.cells #[.int .i64 0, .slice none 0 0] 132)
    have hres : (w.alloc (.cells #[.int .i64 0, .slice none 0 0] 132)).heap[w.heap.size]? = some (.cells #[.int .i64 0, .slice none 0 0] 132 (0, 0)) := by
      show (w.heap.push _)[w.heap.size]? = _
      simp
    have hsz : (w.alloc (.cells #[.int .i64 0, .slice none 0 0] 132)).heap.size = w.heap.size + 1 := by simp
    have hb1 : Below w.heap.size w w1 := hb0.grown hgrow (by rw [hsz]; omega) (fun k e => by cases e)
    have hres1 : w1.heap[w.heap.size]? = some (.cells #[.int .i64 0, .slice none 0 0] 132 (0, 0)) := (hgrow.block _ (by rw [hsz]; omega) (by simp)).trans hres
    have hown0 : w1.ownsRow (w.heap.size + 1) 2 1 (.slice (some ⟨w.heap.size + 1, 0, none⟩) 8 8) 8 ((zs.take 0 ++ List.replicate (8 - 0) 0).map (Value.int .i64)) := by
      have e : (madeCells #[Value.int .i64 0] 8).toList = (zs.take 0 ++ List.replicate (8 - 0) 0).map (Value.int .i64) := by
        rw [toList_madeCells_one]; simp
      rw [← e]; exact hown
    clear hown hgrow hb0 hres hsz
    go_wp2_with fail
    go_loopw [4, 13] (fun r i wr => ∃ k : Nat, k ≤ 8 ∧ i = .int .i64 k ∧ r = .int .i64 (wofRest n k) ∧ wr.ownsRow (w.heap.size + 1) 2 1 (.slice (some ⟨w.heap.size + 1, 0, none⟩) 8 8) 8 ((zs.take k ++ List.replicate (8 - k) 0).map (Value.int .i64)) ∧ Below w.heap.size w wr ∧ wr.heap[w.heap.size]? = some (.cells #[.int .i64 0, .slice none 0 0] 132 (0, 0)))
      (fun _ i _ => 8 - (intOf i).toNat)
    case atStart => exact ⟨0, Nat.zero_le _, rfl, by rw [w0e], hown0, hb1, hres1⟩
    case round =>
      obtain ⟨k, hk, rfl, rfl, hown, hbr, hrs⟩ := hrel
      clear hown0 hb1 hres1
      by_cases hlt : k < 8
      · obtain ⟨ha, hd, hr0, hr1⟩ := (unhide WA) k hlt
        have hand := and_word _ hr0 hr1
        rw [ha] at hand
        have hst := ifill_step zs 8 k hzl hlt
        obtain ⟨r2, hr2⟩ : ∃ r2, r2 = wofRest n (k + 1) := ⟨_, rfl⟩
        rw [← hr2] at hd
        have HR2 := hide hr2
        clear hr2
        generalize wofRest n k = r at hd hr0 hr1 hand
        generalize zs.getD k 0 = z at hand hst
        have hfz := hown.frozenAt k
        obtain ⟨u, hu⟩ : ∃ u, wr.cell? ⟨w.heap.size + 1, k, none⟩ = some u := by
          rw [hown.cellAt k (by omega)]
          exact ⟨_, List.getElem?_eq_getElem (by rw [hown.1]; omega)⟩
        have R := hown.stored k (.int .i64 z)
        rw [hst] at R
        have HR := R.1
        have HB : Below w.heap.size w (wr.setCell ⟨w.heap.size + 1, k, none⟩ (.int .i64 z)) := hbr.setCell (by simp) _
        have HS : (wr.setCell ⟨w.heap.size + 1, k, none⟩ (.int .i64 z)).heap[w.heap.size]? = some (.cells #[.int .i64 0, .slice none 0 0] 132 (0, 0)) := (heap_setCell_other wr ⟨w.heap.size + 1, k, none⟩ w.heap.size _ (by simp)).trans hrs
        clear R hown hst hrs hbr ha
        go_wp2_with fail
        go_roundw
        case rel => exact ⟨k + 1, by omega, by go_num, by rw [unhide HR2], HR, HB, HS⟩
        case measure => simp [intOf]; omega
      · obtain rfl : k = 8 := by omega
        obtain ⟨q0, q1, f0, f1⟩ := res_facts hrs
        go_wp2_with fail
        refine bodyPost_ret (v := .agg #[.int .i64 0, .slice (some ⟨w.heap.size + 1, 0, none⟩) 8 8]) (by simp [results, Tryz.results120, go_sem, q0, q1]) rfl ⟨_, 8, rfl, ?_, ?_⟩
        · have : (zs.take 8 ++ List.replicate (8 - 8) 0) = zs := by rw [List.take_of_length_le (by omega)]; simp
          rw [this] at hown
          exact ownsRow_base (ownsRow_setCell_below (ownsRow_setCell_below hown (by simp) _) (by simp) _) (by omega)
        · exact (hbr.setCell (by simp) _).setCell (by simp) _

set_option maxHeartbeats 2000000 in
theorem l4Of_any (n : Int) (hlo : 0 ≤ n) (hhi : n < 9223372036854775808) (w : World) :
    Calls Tryz.prog 85 #[.int .i64 n] w fun e w' => e = .returned (.slice (some ⟨w.heap.size, 0, none⟩) 8 8) ∧
      w'.ownsRow w.heap.size 2 1 (.slice (some ⟨w.heap.size, 0, none⟩) 8 8) 8 ((wofList n).map (Value.int .i64)) ∧ Below w.heap.size w w' := by
  obtain ⟨i0, hi, hz0, hz1, hz2⟩ := info_parts info2
  go_enter Tryz.func85, Tryz.ntmps85
  go_wp2_with (at_make; refine wpList_make_full _ rfl _ _ 28 rfl w.heap.size 2 i0 (.int .i64 0) 1 Tryz.underlying28 hi hz0 hz1 _ _ _ _ 8 rfl rfl (by omega) (by omega) ?c1 ?c2 ?c3 ?_)
  case c1 => rw [hz2]; omega
  case c2 => unfold maxLen; omega
  case c3 => simp
  intro w1 hown hgrow
  have hb1 : Below w.heap.size w w1 := (Below.refl _ _).grown hgrow (Nat.le_refl _) (fun k e => by cases e)
  rw [toList_madeCells_one] at hown
  have f0 := hown.frozenAt 0
  have f1 := hown.frozenAt 1
  have c0 : w1.cell? ⟨w.heap.size, 0, none⟩ = some (.int .i64 0) := by
    rw [hown.cellAt 0 (by omega)]; rfl
  have c1 : w1.cell? ⟨w.heap.size, 1, none⟩ = some (.int .i64 0) := by
    rw [hown.cellAt 1 (by omega)]; rfl
  have R := (hown.stored 0 (.int .i64 (n % 4294967296)))
  have R2 := (R.1.stored 1 (.int .i64 (n / 4294967296)))
  have HB := (hb1.setCell (p := ⟨w.heap.size, 0, none⟩) (Nat.le_refl _) (.int .i64 (n % 4294967296))).setCell (p := ⟨w.heap.size, 1, none⟩) (Nat.le_refl _) (.int .i64 (n / 4294967296))
  have HR := hide R2.1
  have HBB := hide HB
  clear R R2 HB hown hgrow hb1
  go_wp2_with fail
  go_ret
  exact ⟨rfl, unhide HR, unhide HBB⟩

end Go.Proofs.YtldiilmpmcbjkaaGreatDoor
