/- What is proved here: what the model's l3Encode and EncodeItems answer: an item with all in it as bytes, in new memory; the code and the bytes of items. -/
import Derived.Test.YtkibdgmgjnoblaaEncS
import Derived.Test.YtkibdgmgjnoblaaItN
import Derived.Test.YtkibdgmgjnoblaaOwnG
import Derived.Test.YtkibdgmgjnoblaaPartS
import Derived.Test.YtkibdgmgjnoblaaIBase
namespace Go.Proofs.Ytkibdgmgjnoblaa
open Go.RowKit
set_option linter.unusedVariables false

theorem flat_step (f : Nat → List Int) (ks : List Nat) (k j : Nat) (h : ks[k]? = some j) : (ks.take (k + 1)).flatMap f = (ks.take k).flatMap f ++ f j := by
  obtain ⟨hk, e⟩ := List.getElem?_eq_some_iff.1 h
  rw [List.take_succ_eq_append_getElem hk, e]
  simp

set_option maxHeartbeats 4000000 in
theorem l3Encode_any (a : Option Addr) (len cap : Nat) (its : List It) (N : NoFault its) (hlen : its.length = len) : ∀ (n i : Nat) (it : It), len ≤ i + n → its[i]? = some it → ∀ (w : World), ItRowN w a len its →
    Calls Try.prog 36 #[.slice a len cap, .int .i64 (i : Int)] w fun e w' => ∃ a' cap', e = .returned (.slice a' (enc hdS its i).length cap') ∧
      w'.ownsRow w.heap.size 5 1 (.slice a' (enc hdS its i).length cap') (enc hdS its i).length ((enc hdS its i).map (Value.int .u8)) ∧ Below w.heap.size w w' := by
  intro n
  induction n with
  | zero => intro i it hn hit w h; have := (List.getElem?_eq_some_iff.1 hit).1; omega
  | succ n ih =>
    intro i it hn hit w h
    obtain ⟨i0, hi, hz0, hz1, hz2⟩ := info_parts info5
    have hil : i < len := by rw [← hlen]; exact (List.getElem?_eq_some_iff.1 hit).1
    have hl200 : len ≤ 200 := by rw [← hlen]; exact N.few
    have heq := enc_eq hdS N.up hit
    have hcl := cont_le hdS hdS_length N hit
    obtain ⟨b, off, rfl, hb, hat⟩ := h.at (by omega)
    obtain ⟨sa, sc, c0, c1, c2, hr, hnil⟩ := hat i it hit
    have i1 : (0 : Int) ≤ (i : Int) := by omega
    have i2 : (i : Int) < (len : Int) := by omega
    clear hat
    cases hl : it.l
    · have hk := N.leaf i it hit hl 0
      have hc : cont hdS its i it = it.z := by unfold cont; rw [hk]; simp
      rw [hc] at heq
      have hp : hdS it it.z.length = pieceHd it.z := by
        unfold hdS pieceHd
        rw [hl]
        by_cases t : it.z.length = 1 ∧ it.z.getD 0 0 < 128
        · rw [if_pos ⟨rfl, t⟩, if_pos t]
        · rw [if_neg (fun hh => t hh.2), if_neg t]
      rw [hp] at heq
      rw [heq]
      rw [hl] at c0
      have hz3 : it.z.length ≤ 300 := N.small it (List.mem_of_getElem? hit)
      have HP := hide (l3Piece_any sa it.z.length sc it.z w hr hnil (by omega))
      generalize pieceHd it.z ++ it.z = L at HP
      generalize it.z.length = zl at c2 HP
      clear heq hc hp hcl hr hnil h hk c1 ih
      go_enter Try.func36, Try.ntmps36
      go_wp2_with fail
      refine (unhide HP).mono ?_
      rintro e w1 ⟨a1, c1, rfl, o1, b1⟩
      go_wp2_with fail
      go_ret
      exact ⟨a1, c1, rfl, o1, b1⟩
    · have hze := N.empty it (List.mem_of_getElem? hit) hl
      have hc : cont hdS its i it = (kidsFrom its i 0).flatMap (enc hdS its) := by unfold cont; rw [hze]; simp
      have hhd : ∀ m, hdS it m = headL true m := fun m => by unfold hdS; rw [hl, if_neg (by simp)]
      rw [hc, hhd] at heq
      rw [hc] at hcl
      rw [hl] at c0
      have hpa := parts_all its (i : Int)
      have HP := hide (fun (W : World) (hbw : Below w.heap.size w W) => l3Parts_any (some ⟨b, off, none⟩) len cap its (i : Int) W (h.1.below hbw (Nat.le_refl _)) (by omega) (by omega))
      rw [hpa] at HP
      have hkid : ∀ j, j ∈ kidsFrom its (i : Int) 0 → i < j ∧ j < len := fun j hj => by have := kid_later N.up hj; rw [hlen] at this; exact this
      have IH : Hid (∀ j, j ∈ kidsFrom its (i : Int) 0 → ∀ (W : World), Below w.heap.size w W → Calls Try.prog 36 #[.slice (some ⟨b, off, none⟩) len cap, .int .i64 (j : Int)] W fun e w' => ∃ a' cap', e = .returned (.slice a' (enc hdS its j).length cap') ∧
          w'.ownsRow W.heap.size 5 1 (.slice a' (enc hdS its j).length cap') (enc hdS its j).length ((enc hdS its j).map (Value.int .u8)) ∧ Below W.heap.size W w') := fun j hj W hbw => by
        obtain ⟨h1, h2⟩ := hkid j hj
        obtain ⟨jt, hjt⟩ : ∃ jt, its[j]? = some jt := ⟨_, List.getElem?_eq_getElem (by omega)⟩
        exact ih j jt (by omega) hjt W (h.below hbw (Nat.le_refl _))
      have hkr : ∀ j, j ∈ kidsFrom its (i : Int) 0 → ∀ x ∈ enc hdS its j, 0 ≤ x ∧ x ≤ 255 := fun j _ => enc_range N h.1.bytes its.length j (by omega)
      have HKR := hide hkr
      rw [heq]
      generalize hks : kidsFrom its (i : Int) 0 = ks at HP IH HKR hcl
      obtain ⟨np, hnp⟩ : ∃ np, np = ks.length := ⟨_, rfl⟩
      have hnpl : np ≤ 200 := by
        rw [hnp, ← hks]
        have := partsUp_length its (i : Int) its.length
        rw [hpa, List.length_map] at this
        have := N.few
        omega
      have hel : ∀ j ∈ ks, (enc hdS its j).length ≤ 61908 := fun j hj => by
        obtain ⟨jt, hjt⟩ : ∃ jt, its[j]? = some jt := ⟨_, List.getElem?_eq_getElem (by rw [← hks] at hj; have := (hkid j hj).2; omega)⟩
        exact enc_le hdS hdS_length N hjt
      have HEL := hide hel
      have hfl : ∀ k, ((ks.take k).flatMap (enc hdS its)).length ≤ 61900 := fun k => by
        have : ks.flatMap (enc hdS its) = (ks.take k).flatMap (enc hdS its) ++ (ks.drop k).flatMap (enc hdS its) := by rw [← List.flatMap_append, List.take_append_drop]
        rw [this, List.length_append] at hcl
        omega
      have HFL := hide hfl
      have HNP := hide hnp
      have e1 : (ks.map (fun (j : Nat) => (j : Int))).length = np := by rw [List.length_map, hnp]
      rw [e1] at HP
      have HST := hide (flat_step (enc hdS its) ks)
      generalize enc hdS its = E at HP IH HEL HFL HST HKR
      have o0 : (w.alloc (.cells #[] 5)).ownsRow w.heap.size 5 1 (.slice (some ⟨w.heap.size, 0, none⟩) 0 0) 0 (([] : List Int).map (Value.int .u8)) := World.ownsRow_lit w #[] 0 (Nat.le_refl _) (by unfold maxLen; omega) rfl
      have HO0 := hide o0
      clear hks hnp hel hfl hkid hkr hpa hhd hc hze hr hnil h c1 c2 e1 heq hcl o0 hit ih
      go_enter Try.func36, Try.ntmps36
      go_wp2_with fail
      refine ((unhide HP) _ (below_alloc w _)).mono ?_
      rintro e w1 ⟨ap, cp, rfl, op, bp⟩
      have ob1 := own_below (unhide HO0) bp (Nat.le_refl _)
      have B1 := (below_alloc w (.cells #[] 5)).trans (bp.mono (below_alloc w _).size)
      have HOP := hide op
      have HOB := hide ob1
      have HB1 := hide B1
      clear op ob1 B1 bp HO0
      go_wp2_with fail
      go_loopw [5, 7] (fun s i wr => ∃ (k m : Nat) (ab : Option Addr) (cb : Nat), k ≤ np ∧ i = .int .i64 k ∧ m = ((ks.take k).flatMap E).length ∧ s = .slice ab m cb ∧ wr.ownsRow w.heap.size 5 1 (.slice ab m cb) m (((ks.take k).flatMap E).map (Value.int .u8)) ∧
        wr.ownsRow w.heap.size 2 1 (.slice ap np cp) np ((ks.map (fun (j : Nat) => (j : Int))).map (Value.int .i64)) ∧ Below w.heap.size w wr) (fun _ i _ => np - (intOf i).toNat)
      case atStart => exact ⟨0, 0, _, 0, Nat.zero_le _, rfl, rfl, rfl, unhide HOB, ownsRow_base (unhide HOP) (by simp), unhide HB1⟩
      case round =>
        obtain ⟨k, m, ab, cb, hk, rfl, hm, rfl, ob, op, hbr⟩ := hrel
        clear HOB HOP HB1
        by_cases hlt : k < np
        · obtain ⟨j, hj⟩ : ∃ j, ks[k]? = some j := ⟨_, List.getElem?_eq_getElem (by rw [← unhide HNP]; exact hlt)⟩
          have hjm := List.mem_of_getElem? hj
          obtain ⟨gp, cp', hv⟩ := own_some op (by omega)
          simp only [Value.slice.injEq] at hv
          obtain ⟨rfl, _, rfl⟩ := hv
          have cj : wr.cell? ⟨gp, k, none⟩ = some (.int .i64 (j : Int)) := by
            rw [op.cellAt k (by omega)]; simp [hj]
          have HI := hide ((unhide IH) j hjm wr hbr)
          have hjl := (unhide HEL) j hjm
          have hml : m ≤ 61900 := by rw [hm]; exact (unhide HFL) k
          have hs := (unhide HST) k j hj
          have HS := hide hs
          have HM := hide hm
          have HJR := hide ((unhide HKR) j hjm)
          generalize E j = EJ at HI hjl HS HJR
          generalize (ks.take k).flatMap E = L at ob HS HM
          have k1 : (0 : Int) ≤ (k : Int) := by omega
          have k2 : (k : Int) < (np : Int) := by omega
          have HOB := hide ob
          have HOP := hide op
          have HB := hide hbr
          clear hs hm ob op hbr hj hjm
          go_wp2_with fail
          refine (unhide HI).mono ?_
          rintro e w2 ⟨a2, c2, rfl, o2, b2⟩
          have ob2 := own_below (unhide HOB) b2 (Nat.le_refl _)
          have op2 := own_below (unhide HOP) b2 (Nat.le_refl _)
          have B2 := (unhide HB).trans (b2.mono (unhide HB).size)
          have hr2 := BRow.own2 o2 (unhide HJR)
          go_wp2_with (at_builtin; refine wpList_append_brow _ rfl _ _ 22 rfl w.heap.size i0 Try.underlying22 hi hz0 hz1 hz2 _ m L rfl ob2 a2 EJ.length c2 EJ rfl hr2 (own_cap o2) (by omega) B2.size ?_)
          intro a3 c3 w3 o3 g3
          have B3 : Below w.heap.size w w3 := B2.grown g3 B2.size (fun g e => (ob2.lt g e).1)
          have op3 := own_grown op2 g3 (own_apart ob2 op2 (by decide))
          have HO3 := hide o3
          have HP3 := hide op3
          have HB3 := hide B3
          clear o3 op3 B3 g3 ob2 op2 hr2 B2 o2 b2
          go_wp2_with fail
          go_roundw
          case rel => exact ⟨k + 1, m + EJ.length, a3, c3, by omega, by go_num, by rw [unhide HS, List.length_append, ← unhide HM], rfl, by rw [unhide HS, List.map_append]; exact unhide HO3, unhide HP3, unhide HB3⟩
          case measure => simp [intOf]; omega
        · obtain rfl : k = np := by omega
          have et : ks.take k = ks := List.take_of_length_le (by rw [← unhide HNP]; exact Nat.le_refl _)
          have hml : m ≤ 61900 := by rw [hm]; exact (unhide HFL) k
          rw [et] at hm ob
          have hbr' : ∀ x ∈ ks.flatMap E, 0 ≤ x ∧ x ≤ 255 := fun x hx => by
            obtain ⟨j, hj, hxj⟩ := List.mem_flatMap.1 hx
            exact (unhide HKR) j hj x hxj
          have HW := hide (l3Wrap_any ab m cb (ks.flatMap E) wr (BRow.own2 ob hbr') (own_cap ob) (by omega))
          obtain ⟨R, hR⟩ : ∃ R, R = headL true (m : Int) ++ ks.flatMap E := ⟨_, rfl⟩
          rw [← hR] at HW
          have HR : Hid (headL true (((ks.flatMap E).length : Nat) : Int) ++ ks.flatMap E = R) := by show _ = _; rw [hR, hm]
          have HB := hide hbr
          clear et hm ob op hbr hbr' hR
          go_wp2_with fail
          refine (unhide HW).mono ?_
          rintro e w2 ⟨a2, c2, rfl, o2, b2⟩
          go_wp2_with fail
          go_ret
          refine ⟨a2, c2, ?_, ?_, (unhide HB).trans (b2.mono (unhide HB).size)⟩
          · rw [unhide HR]; rfl
          · rw [unhide HR]; exact ownsRow_base o2 (unhide HB).size

end Go.Proofs.Ytkibdgmgjnoblaa
