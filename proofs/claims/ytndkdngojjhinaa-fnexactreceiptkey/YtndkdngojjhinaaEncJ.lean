/- What is proved here: what the program's EncodeItems answers: the code and the bytes, in new memory. -/
import Derived.Test.YtndkdngojjhinaaHeadsI
import Derived.Test.YtndkdngojjhinaaFaultJ
import Derived.Test.YtndkdngojjhinaaAppB
import Derived.Test.YtndkdngojjhinaaBehR
namespace Go.Proofs.Ytndkdngojjhinaa
open Go.RowKit
set_option linter.unusedVariables false
set_option maxRecDepth 100000

theorem hdI_range (it : It) (n : Nat) : ∀ x ∈ hdI it n, 0 ≤ x ∧ x ≤ 255 := by
  unfold hdI; split
  · intro x hx; simp at hx
  · exact hdBytes_range _ _

set_option maxHeartbeats 8000000 in
theorem implEnc_any (a : Option Addr) (len cap : Nat) (its : List It) (w : World) (h : ItRowN w a len its) (hl : len ≤ 1048576) :
    Calls Try.prog 24 #[.slice a len cap] w fun e w' => ∃ a' cap', e = .returned (.agg #[.int .i64 (enCode its), .slice a' (enBytes its).length cap']) ∧
      w'.ownsRow w.heap.size 5 1 (.slice a' (enBytes its).length cap') (enBytes its).length ((enBytes its).map (Value.int .u8)) ∧ Below w.heap.size w w' := by
  obtain ⟨i0, hi, hz0, hz1, hz2⟩ := info_parts info5
  have HF : Hid (∀ W g, W.heap.size = g → Below w.heap.size w W → Calls Try.prog 32 #[.slice a len cap] W fun e w' => e = .returned (.int .i64 (itemsFlt its)) ∧ Below g W w') := fun W g hg hb => by
    subst hg; exact implFault_any a len cap its W (h.1.below hb (Nat.le_refl _)) hl
  by_cases hf : itemsFlt its = 0
  · have N := noFault_of hf
    rw [hf] at HF
    have hlen := h.1.1
    have hl200 : len ≤ 200 := by rw [← hlen]; exact N.few
    have hl0 : 0 < len := by rw [← hlen]; exact N.some
    have HHD := hide (fun (W : World) (hb : Below w.heap.size w W) => headsOf_any a len cap its N W (h.below hb (Nat.le_refl _)))
    have htie := enc_tie N
    have hdl : (dFrom hdI its 0).length ≤ 61600 := by
      have := dN_le hdI hdI_length N.small its.length 0
      have h5 := N.few
      have : (dFrom hdI its 0).length ≤ 308 * its.length := this
      omega
    have hbytes := h.1.bytes
    obtain ⟨b, off, rfl, hb, hat⟩ := h.at hl0
    have HAT := hide hat
    have HBY := hide hbytes
    have HL := hide hlen
    have HT := hide htie
    clear hat h hbytes hlen htie
    go_enter Try.func24, Try.ntmps24
    go_wp2_with fail
    refine ((unhide HF) _ (w.heap.size + 1) (by simp) (below_alloc w _)).mono ?_
    rintro e w1 ⟨rfl, b1⟩
    have B1 : Below w.heap.size w w1 := (behind_res b1).2.2.2.2.1
    go_wp2_with fail
    refine ((unhide HHD) _ B1).mono ?_
    rintro e w3 ⟨rfl, hh3, b3⟩
    have s1 := (behind_res b1).2.2.2.2.2
    have B3 : Below (w.heap.size + 1) (w.alloc (.cells #[.int .i64 0, .slice none 0 0] 30)) w3 := b1.trans (b3.mono s1)
    have s3 := (behind_res B3).2.2.2.2.2
    have gh3 : w1.heap.size < w3.heap.size := by obtain ⟨hv, q1, _⟩ := hh3; exact q1.lt
    have HH3 := hide hh3
    have HB3 := hide B3
    generalize w1.heap.size = gh at HH3 gh3
    clear hh3 b3 b1 B1 B3 s1
    go_wp2_with fail
    go_loopw [5, 18] (fun s i wr => ∃ (k m : Nat) (L : List Int) (ab : Option Addr) (cb : Nat), k ≤ len ∧ i = .int .i64 k ∧ L.length = m ∧ L ++ dFrom hdI its k = dFrom hdI its 0 ∧ s = .slice ab m cb ∧ wr.ownsRow w3.heap.size 5 1 (.slice ab m cb) m (L.map (Value.int .u8)) ∧ Below w3.heap.size w3 wr) (fun _ i _ => len - (intOf i).toNat)
    case atStart => exact ⟨0, 0, [], none, 0, Nat.zero_le _, rfl, rfl, rfl, rfl, World.ownsRow_nil _ _ _ _, Below.refl _ _⟩
    case round =>
      obtain ⟨k, m, L, ab, cb, hk, rfl, hLm, hsplit, rfl, hown, hbr⟩ := hrel
      have BW : Below (w.heap.size + 1) (w.alloc (.cells #[.int .i64 0, .slice none 0 0] 30)) wr := (unhide HB3).trans (hbr.mono s3)
      obtain ⟨r0, r1, g0, g1, hbw, hsz⟩ := behind_res BW
      by_cases hlt : k < len
      · clear r0 r1 g0 g1
        obtain ⟨it, hit⟩ : ∃ it, its[k]? = some it := ⟨_, List.getElem?_eq_getElem (by rw [unhide HL]; exact hlt)⟩
        obtain ⟨sa, sc, c0, c1, c2, hrow, hnil⟩ := (unhide HAT) k it hit
        have c0r := (hbw.cell (p := ⟨b, off + k * 3, none⟩) hb).trans c0
        have c1r := (hbw.cell (p := ⟨b, off + k * 3 + 1, none⟩) hb).trans c1
        have c2r := (hbw.cell (p := ⟨b, off + k * 3 + 2, none⟩) hb).trans c2
        obtain ⟨hv, q1, q2, q3⟩ := (unhide HH3).below hbr (Nat.le_refl _)
        obtain ⟨ah, ch, p1, p2⟩ := q3 k it (Nat.zero_le _) hit
        have hd0 : wr.cell? ⟨gh, k, none⟩ = some (.slice ah (hdAt its k it).length ch) := by rw [q1.cell]; exact p1
        have hst := dFrom_step hdI hit
        have hhr := BRow.own2 p2 (hdI_range _ _)
        have hhc := own_cap p2
        have hh8 : (hdAt its k it).length ≤ 8 := hdI_length _ _
        have hz3 := N.small it (List.mem_of_getElem? hit)
        have HHR := hide (fun (W : World) (hb' : Below wr.heap.size wr W) => hhr.below hb' (Nat.le_refl _))
        have HZR := hide (fun (W : World) (hb' : Below w.heap.size w W) => hrow.below hb' (Nat.le_refl _))
        have hmb : m ≤ 61600 := by
          have : (L ++ dFrom hdI its k).length ≤ 61600 := by rw [hsplit]; exact hdl
          rw [List.length_append, hLm] at this
          omega
        have HNX : Hid (L ++ hdAt its k it ++ it.z ++ dFrom hdI its (k + 1) = dFrom hdI its 0) := by
          show _ = _
          rw [← hsplit, hst]
          simp [hdAt, List.append_assoc]
        have hzl : it.z.length = it.z.length := rfl
        generalize hdAt its k it = HK at hd0 hh8 HHR HNX p2 hhc
        obtain ⟨zl, hzl⟩ : ∃ zl, zl = it.z.length := ⟨_, rfl⟩
        rw [← hzl] at c2r hz3 HZR
        generalize it.z = zz at HZR HNX hzl
        generalize it.l = il at c0r
        have HZL := hide hzl
        have HLM := hide hLm
        have i1 : (0 : Int) ≤ (k : Int) := by omega
        have i2 : (k : Int) < (len : Int) := by omega
        have i3 : decide ((k : Int) < (len : Int)) = true := decide_eq_true i2
        have gl : gh < wr.heap.size := q1.lt
        have hd0' : ∀ o, (wr.alloc o).cell? ⟨gh, k, none⟩ = some (.slice ah HK.length ch) := fun o => ((below_alloc wr o).cell (p := ⟨gh, k, none⟩) gl).trans hd0
        have HOA := hide (fun o => hown.alloc o)
        have HLT := hide (fun g e => hown.lt g e)
        have hwr3 := hbr.size
        have HBR := hide hbr
        clear hst hhr hzl hLm hsplit hown hbr BW hbw q1 q2 q3 p1 p2 c0 c1 c2 hrow hit hd0
        have HWA : Hid (∀ o, Below wr.heap.size wr (wr.alloc o)) := fun o => below_alloc wr o
        go_wp2_with (at_builtin; refine wpList_append_brow _ rfl _ _ 28 rfl w3.heap.size i0 Try.underlying28 hi hz0 hz1 hz2 _ m L rfl ((unhide HOA) _) ah HK.length ch HK rfl ((unhide HHR) _ ((unhide HWA) _)) hhc (by omega) (by simp; omega) ?_)
        intro a4 c4 w4 o4 g4
        have K4 : Below w3.heap.size w3 w4 := ((unhide HBR).alloc hwr3 _).grown g4 (by simp; omega) (fun g e => ((unhide HLT) g e).1)
        have BW4 : Below w.heap.size w w4 := (behind_res ((unhide HB3).trans (K4.mono s3))).2.2.2.2.1
        have hne : ∀ g, (Value.slice ab m cb).ownBlock = some g → g < wr.heap.size := fun g e => ((unhide HLT) g e).2
        have ci : w4.cell? ⟨wr.heap.size, 2, none⟩ = some (.slice sa zl sc) := g4.cell (a := ⟨wr.heap.size, 2, none⟩) (by simp) (fun e => by have := hne _ e.symm; exact absurd this (Nat.lt_irrefl _))
        have hzr := (unhide HZR) w4 BW4
        have s34 := K4.size
        have HLT4 := hide (fun g e => (o4.lt g e).1)
        rw [← List.map_append] at o4
        have HO4 := hide o4
        have HK4 := hide K4
        clear o4 g4 K4 hd0' c0r c1r c2r BW4
        go_wp2_with (at_builtin; refine wpList_append_brow _ rfl _ _ 28 rfl w3.heap.size i0 Try.underlying28 hi hz0 hz1 hz2 _ (m + HK.length) (L ++ HK) rfl (unhide HO4) sa zl sc zz rfl hzr hnil (by omega) s34 ?_)
        intro a5 c5 w5 o5 g5
        have K5 : Below w3.heap.size w3 w5 := (unhide HK4).grown g5 s34 (fun g e => (unhide HLT4) g e)
        rw [← List.map_append] at o5
        have HO5 := hide o5
        have HK5 := hide K5
        clear o5 g5 K5 ci hzr
        go_wp2_with fail
        go_roundw
        case rel => exact ⟨k + 1, m + HK.length + zl, L ++ HK ++ zz, a5, c5, by omega, by go_num, by rw [List.length_append, List.length_append, unhide HLM, ← unhide HZL], unhide HNX, rfl, by simpa [List.append_assoc] using unhide HO5, unhide HK5⟩
        case measure => simp [intOf]; omega
      · obtain rfl : k = len := by omega
        have hde : dFrom hdI its k = [] := dFrom_end hdI its k (by rw [unhide HL]; exact Nat.le_refl _)
        rw [hde, List.append_nil] at hsplit
        have i3 : decide ((k : Int) < (k : Int)) = false := decide_eq_false (by omega)
        by_cases h12 : 1200 < (enc hdS its 0).length
        · have hgt := (unhide HT).1 h12
          rw [← hsplit, hLm] at hgt
          have HE1 : Hid (enCode its = 2) := by show _ = _; unfold enCode; rw [if_pos hf, if_pos h12]
          have HE2 : Hid (enBytes its = []) := by show _ = _; unfold enBytes; rw [if_neg (by omega)]
          have d1 : decide ((1200 : Int) < (m : Int)) = true := decide_eq_true (by omega)
          have HB := hide hbw
          clear hsplit hLm hown hbr BW hde h12 hbw
          go_wp2_with fail
          refine bodyPost_ret (v := .agg #[.int .i64 2, .slice none 0 0]) (by simp [results, Try.results24, go_sem, r0, r1]) rfl ⟨none, 0, ?_, ?_, ((unhide HB).setCell (by simp) _).setCell (by simp) _⟩
          · rw [unhide HE1, unhide HE2]; rfl
          · rw [unhide HE2]; exact World.ownsRow_nil _ _ _ _
        · have heq := (unhide HT).2 (by omega)
          rw [← hsplit] at heq
          have hm12 : m ≤ 1200 := by rw [← hLm, heq]; omega
          have HE1 : Hid (enCode its = 0) := by show _ = _; unfold enCode; rw [if_pos hf, if_neg h12]
          have HE2 : Hid (enBytes its = L) := by show _ = _; unfold enBytes; rw [if_pos ⟨hf, by omega⟩, heq]
          have d1 : decide ((1200 : Int) < (m : Int)) = false := decide_eq_false (by omega)
          have HB := hide hbw
          have HO := hide hown
          have HLM := hide hLm
          clear hsplit hLm hown hbr BW hde h12 hbw heq
          go_wp2_with fail
          refine bodyPost_ret (v := .agg #[.int .i64 0, .slice ab m cb]) (by simp [results, Try.results24, go_sem, r0, r1]) rfl ⟨ab, cb, ?_, ?_, ((unhide HB).setCell (by simp) _).setCell (by simp) _⟩
          · rw [unhide HE1, unhide HE2, unhide HLM]
          · rw [unhide HE2, unhide HLM]
            exact ownsRow_base (ownsRow_setCell_below (ownsRow_setCell_below (unhide HO) (by simp; omega) _) (by simp; omega) _) (by omega)
  · have e1 : enCode its = itemsFlt its := by unfold enCode; rw [if_neg hf]
    have e2 : enBytes its = [] := by unfold enBytes; rw [if_neg (fun hh => hf hh.1)]
    rw [e1, e2]
    have hne : (itemsFlt its != 0) = true := by simp [hf]
    generalize itemsFlt its = c at HF hne
    clear e1 e2 h hf
    go_enter Try.func24, Try.ntmps24
    go_wp2_with fail
    refine ((unhide HF) _ (w.heap.size + 1) (by simp) (below_alloc w _)).mono ?_
    rintro e w1 ⟨rfl, b1⟩
    obtain ⟨r0, r1, g0, g1, hbw, hsz⟩ := behind_res b1
    clear b1
    go_wp2_with fail
    exact bodyPost_ret (v := .agg #[.int .i64 c, .slice none 0 0]) (by simp [results, Try.results24, go_sem, r0, r1]) rfl ⟨none, 0, rfl, World.ownsRow_nil _ _ _ _, (hbw.setCell (by simp) _).setCell (by simp) _⟩

end Go.Proofs.Ytndkdngojjhinaa
