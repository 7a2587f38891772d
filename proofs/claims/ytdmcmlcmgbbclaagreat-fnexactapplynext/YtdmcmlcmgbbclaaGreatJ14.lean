/- What is proved here: what the model's l7Put answers: an address put among addresses. -/
import Derived.Test.YtdmcmlcmgbbclaaGreatK0
import Derived.Test.YtdmcmlcmgbbclaaGreatJ13
import Derived.Test.YtdmcmlcmgbbclaaGreatJ10
import Derived.Test.YtdmcmlcmgbbclaaGreatJ7
import Derived.Test.YtdmcmlcmgbbclaaGreatJ8
import Derived.Test.YtdmcmlcmgbbclaaGreatJ4
import Derived.Deep.AppendLies
namespace Go.Proofs.YtdmcmlcmgbbclaaGreat
set_option linter.unusedVariables false
set_option linter.unusedSimpArgs false
open Go.RowKit
set_option maxRecDepth 100000

/-- The slices of a row stand where a part of it is read. -/
theorem sl_news {w : World} {b off : Nat} {es : List Sl} (hc : ∀ i e, es[i]? = some e → w.cell? ⟨b, off + i, none⟩ = some e.v) (k m : Nat) (o' : Nat) (ho : o' = off + k) : ∀ (j : Nat) u, ((((es.drop k).take m)).map Sl.v)[j]? = some u → w.cell? ((⟨b, o', none⟩ : Addr).add j) = some u := fun j u hu => by
 rw [List.getElem?_map] at hu
 have hj : j < ((es.drop k).take m).length := by
  rcases Nat.lt_or_ge j ((es.drop k).take m).length with h | h
  · exact h
  · rw [List.getElem?_eq_none h] at hu; cases hu
 rw [List.length_take] at hj
 rw [List.getElem?_take, if_pos (by omega), List.getElem?_drop] at hu
 cases he : es[k + j]? with
 | none => rw [he] at hu; cases hu
 | some e =>
  rw [he] at hu
  obtain rfl := Option.some.inj hu
  rw [add_none, ho, Nat.add_assoc]
  exact hc (k + j) e he

theorem one_at1 (w : World) (x : Value) (t : TypeId) : ∀ (j : Nat) (u : Value), [x][j]? = some u → (w.alloc (.cells #[x] t)).cell? ((⟨w.heap.size, 0, none⟩ : Addr).add j) = some u := by
 intro j u hj
 rw [add_none, Nat.zero_add, World.cell?_alloc_new]
 match j, hj with
 | 0, hj => simpa using hj

set_option maxHeartbeats 4000000 in
theorem l7Put_any (sn sc b off : Nat) (t : Sl) (es : List Sl) (zss : List (List Int)) (z : List Int) (w : World) (hb : b < w.heap.size) (el : es.length = zss.length) (ec : ∀ i e, es[i]? = some e → w.cell? ⟨b, off + i, none⟩ = some e.v) (eo : ∀ (i : Nat) (e : Sl) (y : List Int), es[i]? = some e → zss[i]? = some y → BOk w e y)
    (ot : BOk w t z) (hn : sn = zss.length) (hroom : sn ≤ sc) (hp : 0 < zss.length) (hl : zss.length ≤ 100000) (hz : z.length ≤ 100000) :
    Calls Tryz.prog 116 #[.slice (some ⟨b, off, none⟩) sn sc, .slice t.a t.n t.c] w fun r w' => ∃ s' : Sl, r = .returned (.slice s'.a s'.n s'.c) ∧ (∀ W : World, (∀ g, w.heap.size ≤ g → g < w'.heap.size → W.heap[g]? = w'.heap[g]?) → (∀ (i : Nat) (e : Sl) (y : List Int), es[i]? = some e → zss[i]? = some y → BOk W e y) → RowOk bytesK W s' (putL zss z)) ∧ Below w.heap.size w w' := by
 obtain ⟨i0, hi, hz0, hz1, hz2⟩ := info_parts infoSB
 obtain ⟨ta, tn, tc⟩ := t
 have htn : z.length = tn := ot.row.1
 have htn1 : tn ≤ 100000 := by omega
 have hpl : plB zss z ≤ sn := by have := plB_le zss z; omega
 have hsn0 : 0 < sn := by omega
 have hsn1 : sn ≤ 100000 := by omega
 have HA := hide (fun (i : Nat) (e : Sl) (y : List Int) (he : es[i]? = some e) (hy : zss[i]? = some y) => l1Ahead_any e.a ta e.n e.c tn tc y z w (eo i e y he hy).row ot.row)
 have HPL := hide (plB_lt zss z)
 have HPA := hide (plB_at zss z)
 have HEC := hide ec
 have HCP := hide (fun (W : World) (hbW : Below w.heap.size w W) => copy_any ta tn tc z W (ot.row.below hbW (Nat.le_refl _)) ot.nil (by omega))
 have HBY := hide ot.row.2.1
 have HEO := hide eo
 have HZZ : Hid (putL zss z = zss.take (plB zss z) ++ [z] ++ zss.drop (plB zss z)) := rfl
 generalize plB zss z = K at hpl HPL HPA HZZ
 generalize putL zss z = ZZ at HZZ ⊢
 have HOW0 : Hid ((w.alloc (.cells #[] 29)).ownsRow w.heap.size 29 1 (.slice (some ⟨w.heap.size, 0, none⟩) 0 0) 0 []) := World.ownsRow_lit w #[] 0 (Nat.le_refl _) (by unfold maxLen; omega) rfl
 have HB0 := hide (below_alloc w (.cells #[] 29))
 have HN := hide hn
 have hel : es.length = sn := by omega
 have HEL := hide hel
 clear ot ec eo hn htn hp hl hz el hel
 go_enter Tryz.func116, Tryz.ntmps116
 go_wp2_with fail
 go_loop [5] (fun i => ∃ k : Nat, k ≤ K ∧ i = .int .i64 k) (fun i => sn - (intOf i).toNat)
 case atStart => exact ⟨0, Nat.zero_le _, rfl⟩
 case round =>
  obtain ⟨k, hk, rfl⟩ := hrel
  have k1 : (0 : Int) ≤ (k : Int) := by omega
  by_cases hlt : k < K
  · obtain ⟨y, hy⟩ : ∃ y, zss[k]? = some y := ⟨_, List.getElem?_eq_getElem (by have := unhide HN; have := unhide HEL; omega)⟩
    obtain ⟨e, he⟩ : ∃ e, es[k]? = some e := ⟨_, List.getElem?_eq_getElem (by have := unhide HN; have := unhide HEL; omega)⟩
    have hA := (unhide HPL) k y hy hlt
    have D := hide ((unhide HA) k e y he hy)
    rw [hA] at D
    have cc := (unhide HEC) k e he
    unfold Sl.v at cc
    have k2 : (k : Int) < (sn : Int) := by omega
    have k2' : k < sn := by omega
    clear hA hy he
    go_wp2_with fail
    refine (unhide D).mono ?_
    rintro r w1 ⟨rfl, rfl⟩
    go_wp2_with fail
    go_round
    case rel => exact ⟨k + 1, by omega, by go_num⟩
    case measure => simp [intOf]; omega
  · obtain rfl : k = K := by omega
    clear hlt hk
    have k3 : (k : Int) ≤ (sn : Int) := by omega
    have k4 : (sn : Int) ≤ (sc : Int) := by omega
    obtain ⟨o', ho'⟩ : ∃ o', o' = if sc = k then off else off + k := ⟨_, rfl⟩
    have HNW : Hid (∀ W, Below w.heap.size w W → ∀ (j : Nat) u, ((es.map Sl.v).drop k)[j]? = some u → W.cell? ((⟨b, o', none⟩ : Addr).add j) = some u) := fun W hbW j u hu => by
     have hj := (List.getElem?_eq_some_iff.1 hu).1
     rw [List.length_drop, List.length_map, unhide HEL] at hj
     have hne : ¬ sc = k := by omega
     rw [ho', if_neg hne]
     rw [← List.map_drop] at hu
     refine sl_news (es := es) (fun i e he => (hbW.cell (p := ⟨b, off + i, none⟩) hb).trans ((unhide HEC) i e he)) k (es.length - k) (off + k) rfl j u ?_
     rw [← List.length_drop, List.take_length]
     exact hu
    have HNT : Hid (∀ W, Below w.heap.size w W → ∀ (j : Nat) u, ((es.map Sl.v).take k)[j]? = some u → W.cell? ((⟨b, off, none⟩ : Addr).add j) = some u) := fun W hbW j u hu => by
     refine sl_news (es := es) (fun i e he => (hbW.cell (p := ⟨b, off + i, none⟩) hb).trans ((unhide HEC) i e he)) 0 k off rfl j u ?_
     rw [List.drop_zero, List.map_take]
     exact hu
    have hif : (if sc = k then some (⟨b, off, none⟩ : Addr) else some ⟨b, off + k, none⟩) = some ⟨b, o', none⟩ := by rw [ho']; split <;> rfl
    clear ho'
    rcases Nat.lt_or_ge k sn with hks | hks
    · obtain ⟨y, hy⟩ : ∃ y, zss[k]? = some y := ⟨_, List.getElem?_eq_getElem (by have := unhide HN; have := unhide HEL; omega)⟩
      obtain ⟨e, he⟩ : ∃ e, es[k]? = some e := ⟨_, List.getElem?_eq_getElem (by have := unhide HN; have := unhide HEL; omega)⟩
      have hA := (unhide HPA) y hy
      have D := hide ((unhide HA) k e y he hy)
      rw [hA] at D
      have cc := (unhide HEC) k e he
      unfold Sl.v at cc
      have k2 : (k : Int) < (sn : Int) := by omega
      clear hA hy he
      go_wp2_with fail
      refine (unhide D).mono ?_
      rintro r w1 ⟨rfl, rfl⟩
      clear D cc
      have hown0 := unhide HOW0
      go_upto_region 4 with fail
      go_wp2_with (at_builtin; refine wpList_append_own _ rfl _ _ 24 rfl w1.heap.size 29 i0 (.slice none 0 0) 1 24 Tryz.underlying24 hi hz0 hz1 hz2 rfl (by decide) _ _ _ rfl hown0 ⟨b, off, none⟩ k _ ((es.map Sl.v).take k) rfl ?c0 ?c1 ?c2 ?c3 ?c4 ?c5 ?_)
      try case c0 => first | (rw [List.length_take, List.length_map, unhide HEL]; omega) | (have := unhide HEL; omega)
      try case c1 => first | exact (unhide HNT) _ (unhide HB0) | (intro j u hu; rw [← add_none]; exact (unhide HNT) _ (Below.refl _ _) j u hu)
      try case c2 => intro u hu; obtain ⟨e, _, rfl⟩ := List.mem_map.1 (List.mem_of_mem_take hu); rfl
      try case c3 => unfold maxLen; omega
      try case c4 => omega
      try case c5 => simp
      intro v' w5 hown5 hgrow5 hv5n
      have hb5 : Below w1.heap.size w1 w5 := (unhide HB0).grown hgrow5 (by simp) (fun g e => (hown0.lt g e).1)
      have HB5 := hide hb5
      try rw [List.nil_append, Nat.zero_add] at hown5
      have HOW5 := hide hown5
      have HO5 : Hid (∀ W, Below w5.heap.size w5 W → W.ownsRow w1.heap.size 29 1 v' k ((es.map Sl.v).take k)) := fun W hb => own_below hown5 hb (Nat.le_refl _)
      have HC5 : Hid (∀ W, Below w5.heap.size w5 W → Calls Tryz.prog 59 #[.slice ta tn tc] W fun r w' => ∃ (a' : Option Addr) (cap' : Nat), r = .returned (.slice a' tn cap') ∧ w'.ownsRow w5.heap.size 5 1 (.slice a' tn cap') tn (z.map (Value.int .u8)) ∧ Below w5.heap.size w5 w') := fun W hb => by
       refine ((unhide HCP) W (hb5.trans (hb.mono hb5.size))).mono ?_
       rintro r w' ⟨a', cap', rfl, h1, h2⟩
       exact ⟨a', cap', rfl, ownsRow_base h1 hb.size, hb.trans (h2.mono hb.size)⟩
      clear hown5 hgrow5 hv5n hb5 hown0 HOW0 HB0 HCP HNT k2 hks
      go_wp2_with fail
      refine wp_region_held_drew (S := (fun _ => True)) (by kernel_rfl) (trivial) (fun hHeld => ?_)
      refine tkA 0 ?_
      try dsimp only
      refine tkA 1 ?_
      try dsimp only
      refine tkA 5 ?_
      try dsimp only
      refine tkA 6 ?_
      try dsimp only
      refine tkA 7 ?_
      try dsimp only
      refine rdA 2 (fun K hK => ?_)
      go_simp
      go_at_call 59
      refine ((unhide HC5) _ (by first | exact (Below.refl w5.heap.size w5).drew | exact Below.refl w5.heap.size w5)).mono ?_
      rintro r W1 ⟨a1, c1, rfl, o1, b1⟩
      (try dsimp only)
      refine hK.out _ _ (trivial) (fun hHeld => ?_)
      clear hK K
      try dsimp only
      refine rdA 3 (fun K hK => ?_)
      go_simp
      refine hK.out _ _ (trivial) (fun hHeld => ?_)
      clear hK K
      try dsimp only
      refine rdA 4 (fun K hK => ?_)
      refine step_append_lies _ (by rfl) (.tmp 26) (.tmp 29) 24 (by rfl) w1.heap.size 29 i0 (.slice none 0 0) 1 24 Tryz.underlying24 hi hz0 hz1 hz2 rfl (by decide) _ _ _ (by rfl) (by exact ((unhide HO5) _ b1).alloc _) ⟨W1.heap.size, 0, none⟩ 1 1 [.slice a1 tn c1] (by rfl) rfl (by exact one_at1 W1 _ _) (by simp [Value.oneCell']) (by omega) (by unfold maxLen; omega) (by omega) (by simp; have := b1.size; have := (unhide HB5).size; omega) _ rfl ?_
      intro g2 cap2 W2 hown2 hgrow2 hat2 hlt2
      have HQ := hide (And.intro hown2 (And.intro hgrow2 (And.intro hat2 (And.intro o1 b1))))
      clear hown2 hgrow2 hat2 hlt2 o1 b1
      refine hK.out _ _ (trivial) (fun hHeld => ?_)
      clear hK K
      try dsimp only
      refine rdA 8 (fun K hK => ?_)
      obtain ⟨hown2, hgrow2, hat2, o1, b1⟩ := unhide HQ
      have PD := fun W3 => put_done (W3 := W3) (T := 29) (es := es) (zss := zss) (unhide HB5) (unhide HOW5) b1 o1 (unhide HBY) (below_alloc W1 (.cells #[.slice a1 tn c1] 29)) hgrow2 hat2
      refine step_append_own' _ (by rfl) (.tmp 30) (.tmp 33) 24 (by rfl) w1.heap.size 29 i0 (.slice none 0 0) 1 24 Tryz.underlying24 hi hz0 hz1 hz2 rfl (by decide) _ _ _ (by rfl) (by exact hown2) ⟨b, o', none⟩ (sn - k) _ ((es.map Sl.v).drop k) (by rfl) (by rw [List.length_drop, List.length_map, unhide HEL, Nat.mul_one]) (by exact (unhide HNW) _ (PD W2).1) (by intro u hu; obtain ⟨e, _, rfl⟩ := List.mem_map.1 (List.mem_of_mem_drop hu); rfl) (by unfold maxLen; omega) (by omega) (by have := (PD W2).1.size; omega) ?_
      intro v6 W3 hown3 hgrow3
      obtain ⟨s6, e6, r6, b6⟩ := (PD W3).2 _ v6 (by rw [List.map_append, List.map_append, List.map_take, List.map_drop]; exact hown3) hgrow3 (by rw [unhide HEL]; exact unhide HN) (by have := unhide HN; omega)
      subst e6
      have HR := hide (And.intro r6 b6)
      clear hown2 hgrow2 hat2 o1 b1 PD hown3 hgrow3 r6 b6 HQ
      refine hK.out _ _ (trivial) (fun hHeld => ?_)
      clear hK K
      try dsimp only
      refine tkA 9 ?_
      try dsimp only
      refine wpAnyH_done (by kernel_rfl) ?_ _
      go_wp2_with fail
      go_ret
      exact ⟨s6, rfl, fun W h1 h2 => by rw [unhide HZZ]; exact (unhide HR).1 W h1 h2, (unhide HR).2⟩
    · have k2 : decide ((k : Int) < (sn : Int)) = false := decide_eq_false (by omega)
      have hown0 := unhide HOW0
      go_upto_region 4 with fail
      go_wp2_with (at_builtin; refine wpList_append_own _ rfl _ _ 24 rfl w.heap.size 29 i0 (.slice none 0 0) 1 24 Tryz.underlying24 hi hz0 hz1 hz2 rfl (by decide) _ _ _ rfl hown0 ⟨b, off, none⟩ k _ ((es.map Sl.v).take k) rfl ?c0 ?c1 ?c2 ?c3 ?c4 ?c5 ?_)
      try case c0 => first | (rw [List.length_take, List.length_map, unhide HEL]; omega) | (have := unhide HEL; omega)
      try case c1 => first | exact (unhide HNT) _ (unhide HB0) | (intro j u hu; rw [← add_none]; exact (unhide HNT) _ (Below.refl _ _) j u hu)
      try case c2 => intro u hu; obtain ⟨e, _, rfl⟩ := List.mem_map.1 (List.mem_of_mem_take hu); rfl
      try case c3 => unfold maxLen; omega
      try case c4 => omega
      try case c5 => simp
      intro v' w5 hown5 hgrow5 hv5n
      have hb5 : Below w.heap.size w w5 := (unhide HB0).grown hgrow5 (by simp) (fun g e => (hown0.lt g e).1)
      have HB5 := hide hb5
      try rw [List.nil_append, Nat.zero_add] at hown5
      have HOW5 := hide hown5
      have HO5 : Hid (∀ W, Below w5.heap.size w5 W → W.ownsRow w.heap.size 29 1 v' k ((es.map Sl.v).take k)) := fun W hb => own_below hown5 hb (Nat.le_refl _)
      have HC5 : Hid (∀ W, Below w5.heap.size w5 W → Calls Tryz.prog 59 #[.slice ta tn tc] W fun r w' => ∃ (a' : Option Addr) (cap' : Nat), r = .returned (.slice a' tn cap') ∧ w'.ownsRow w5.heap.size 5 1 (.slice a' tn cap') tn (z.map (Value.int .u8)) ∧ Below w5.heap.size w5 w') := fun W hb => by
       refine ((unhide HCP) W (hb5.trans (hb.mono hb5.size))).mono ?_
       rintro r w' ⟨a', cap', rfl, h1, h2⟩
       exact ⟨a', cap', rfl, ownsRow_base h1 hb.size, hb.trans (h2.mono hb.size)⟩
      clear hown5 hgrow5 hv5n hb5 hown0 HOW0 HB0 HCP HNT k2 hks
      go_wp2_with fail
      refine wp_region_held_drew (S := (fun _ => True)) (by kernel_rfl) (trivial) (fun hHeld => ?_)
      refine tkA 0 ?_
      try dsimp only
      refine tkA 1 ?_
      try dsimp only
      refine tkA 5 ?_
      try dsimp only
      refine tkA 6 ?_
      try dsimp only
      refine tkA 7 ?_
      try dsimp only
      refine rdA 2 (fun K hK => ?_)
      go_simp
      go_at_call 59
      refine ((unhide HC5) _ (by first | exact (Below.refl w5.heap.size w5).drew | exact Below.refl w5.heap.size w5)).mono ?_
      rintro r W1 ⟨a1, c1, rfl, o1, b1⟩
      (try dsimp only)
      refine hK.out _ _ (trivial) (fun hHeld => ?_)
      clear hK K
      try dsimp only
      refine rdA 3 (fun K hK => ?_)
      go_simp
      refine hK.out _ _ (trivial) (fun hHeld => ?_)
      clear hK K
      try dsimp only
      refine rdA 4 (fun K hK => ?_)
      refine step_append_lies _ (by rfl) (.tmp 26) (.tmp 29) 24 (by rfl) w.heap.size 29 i0 (.slice none 0 0) 1 24 Tryz.underlying24 hi hz0 hz1 hz2 rfl (by decide) _ _ _ (by rfl) (by exact ((unhide HO5) _ b1).alloc _) ⟨W1.heap.size, 0, none⟩ 1 1 [.slice a1 tn c1] (by rfl) rfl (by exact one_at1 W1 _ _) (by simp [Value.oneCell']) (by omega) (by unfold maxLen; omega) (by omega) (by simp; have := b1.size; have := (unhide HB5).size; omega) _ rfl ?_
      intro g2 cap2 W2 hown2 hgrow2 hat2 hlt2
      have HQ := hide (And.intro hown2 (And.intro hgrow2 (And.intro hat2 (And.intro o1 b1))))
      clear hown2 hgrow2 hat2 hlt2 o1 b1
      refine hK.out _ _ (trivial) (fun hHeld => ?_)
      clear hK K
      try dsimp only
      refine rdA 8 (fun K hK => ?_)
      obtain ⟨hown2, hgrow2, hat2, o1, b1⟩ := unhide HQ
      have PD := fun W3 => put_done (W3 := W3) (T := 29) (es := es) (zss := zss) (unhide HB5) (unhide HOW5) b1 o1 (unhide HBY) (below_alloc W1 (.cells #[.slice a1 tn c1] 29)) hgrow2 hat2
      refine step_append_own' _ (by rfl) (.tmp 30) (.tmp 33) 24 (by rfl) w.heap.size 29 i0 (.slice none 0 0) 1 24 Tryz.underlying24 hi hz0 hz1 hz2 rfl (by decide) _ _ _ (by rfl) (by exact hown2) ⟨b, o', none⟩ (sn - k) _ ((es.map Sl.v).drop k) (by rfl) (by rw [List.length_drop, List.length_map, unhide HEL, Nat.mul_one]) (by exact (unhide HNW) _ (PD W2).1) (by intro u hu; obtain ⟨e, _, rfl⟩ := List.mem_map.1 (List.mem_of_mem_drop hu); rfl) (by unfold maxLen; omega) (by omega) (by have := (PD W2).1.size; omega) ?_
      intro v6 W3 hown3 hgrow3
      obtain ⟨s6, e6, r6, b6⟩ := (PD W3).2 _ v6 (by rw [List.map_append, List.map_append, List.map_take, List.map_drop]; exact hown3) hgrow3 (by rw [unhide HEL]; exact unhide HN) (by have := unhide HN; omega)
      subst e6
      have HR := hide (And.intro r6 b6)
      clear hown2 hgrow2 hat2 o1 b1 PD hown3 hgrow3 r6 b6 HQ
      refine hK.out _ _ (trivial) (fun hHeld => ?_)
      clear hK K
      try dsimp only
      refine tkA 9 ?_
      try dsimp only
      refine wpAnyH_done (by kernel_rfl) ?_ _
      go_wp2_with fail
      go_ret
      exact ⟨s6, rfl, fun W h1 h2 => by rw [unhide HZZ]; exact (unhide HR).1 W h1 h2, (unhide HR).2⟩

set_option maxRecDepth 100000

theorem less_sm {x : Sn} (m : SnSm x) (za zb : List Int) : SnSm (lessSn x za zb) :=
 ⟨m.s, m.sz, m.r, m.rz, Nat.le_trans (List.length_filter_le _ _) m.v, fun y hy => m.vz y (List.mem_filter.1 hy).1⟩

theorem bnil (w : World) : BOk w ⟨none, 0, 0⟩ [] := ⟨⟨rfl, (fun x hx => by cases hx), (fun _ => rfl), fun x hx => by cases hx⟩, Nat.le_refl _, Nat.zero_le _, fun _ => rfl⟩

/-- Blocks from a place on, up to the end of a world, stand as there. -/
abbrev Std (n : Nat) (w W : World) : Prop := ∀ g, n ≤ g → g < w.heap.size → W.heap[g]? = w.heap[g]?

theorem std_slices {n : Nat} {w : World} {s : Sl} {zss : List (List Int)} (hp : 0 < zss.length) (h : ∀ W : World, Std n w W → RowOk bytesK W s zss) :
    ∃ (es : List Sl) (b off : Nat), s.a = some ⟨b, off, none⟩ ∧ n ≤ b ∧ b < w.heap.size ∧ es.length = zss.length ∧ (∀ W : World, Std n w W → ∀ i e, es[i]? = some e → W.cell? ⟨b, off + i, none⟩ = some e.v) ∧ ∀ W : World, Std n w W → ∀ (i : Nat) (e : Sl) (y : List Int), es[i]? = some e → zss[i]? = some y → BOk W e y := by
 have o := h w (fun _ _ _ => rfl)
 obtain ⟨es, el, ec, eo⟩ := o.slices
 obtain ⟨b, off, ha, hb, _⟩ := o.pos (by rw [o.len]; exact hp)
 have hnb : n ≤ b := by
  rcases Nat.lt_or_ge b n with hlt | hge
  · exfalso
    obtain ⟨W, eW⟩ : ∃ W : World, W = { w with heap := w.heap.setIfInBounds b (.cells #[] 5 (0, 0)) } := ⟨_, rfl⟩
    have hst : Std n w W := fun g hg hl => by
     rw [eW]
     show (w.heap.setIfInBounds b (.cells #[] 5 (0, 0)))[g]? = _
     rw [Array.getElem?_setIfInBounds_ne (by omega)]
    have oW := h W hst
    obtain ⟨b', off', ha', hb', hc⟩ := oW.pos (by rw [oW.len]; exact hp)
    rw [ha] at ha'
    simp only [Option.some.injEq, Addr.mk.injEq, and_true] at ha'
    obtain ⟨rfl, rfl⟩ := ha'
    obtain ⟨e, q, _⟩ := hc 0 _ (List.getElem?_eq_getElem hp)
    have q0 := q 0 _ rfl
    have hbk : W.heap[b]? = some (.cells #[] 5 (0, 0)) := by
     rw [eW]
     show (w.heap.setIfInBounds b (.cells #[] 5 (0, 0)))[b]? = _
     rw [Array.getElem?_setIfInBounds_self_of_lt hb]
    rw [cell_of_row W b _ #[] 5 (0, 0) hbk] at q0
    simp at q0
  · exact hge
 have hcs : ∀ W : World, Std n w W → ∀ i e, es[i]? = some e → W.cell? ⟨b, off + i, none⟩ = some e.v := fun W hW i e he => (World.cell?_of_block (w := w) (hW b hnb hb)).trans (ec b off ha i e he)
 refine ⟨es, b, off, ha, hnb, hb, el, hcs, fun W hW i e y he hy => ?_⟩
 obtain ⟨b', off', ha', hb', hc⟩ := (h W hW).pos (by rw [(h W hW).len]; exact hp)
 rw [ha] at ha'
 simp only [Option.some.injEq, Addr.mk.injEq, and_true] at ha'
 obtain ⟨rfl, rfl⟩ := ha'
 obtain ⟨e', q, ho⟩ := hc i y hy
 have q0 := q 0 _ rfl
 have e1 : bytesK.m = 1 := rfl
 rw [e1, Nat.mul_one, Nat.add_zero, hcs W hW i e he] at q0
 have hv : e = e' := by
  obtain ⟨a1, a2, a3⟩ := e
  obtain ⟨b1, b2, b3⟩ := e'
  simp only [Sl.v, Option.some.injEq, Value.slice.injEq] at q0
  obtain ⟨rfl, rfl, rfl⟩ := q0
  rfl
 rw [hv]
 exact ho

theorem l7Less_ok (e : SnS) (x : Sn) (w : World) (o : SNK.Ok w e x) (m : SnSm x) (sa sb : Sl) (za zb : List Int) (oa : BOk w sa za) (ob : BOk w sb zb) :
    Calls Tryz.prog 90 #[.agg (snvals e x), .slice sa.a sa.n sa.c, .slice sb.a sb.n sb.c] w fun r w' => ∃ e' : SnS, r = .returned (.agg (snvals e' (lessSn x za zb))) ∧ (∀ W : World, Std (w.heap.size + 2) w' W → SNK.Ok W e' (lessSn x za zb)) ∧ Below w.heap.size w w' := by
 refine (l7Less_any e x w o m sa sb za zb oa ob).mono ?_
 rintro r w' ⟨e', d, B, rfl, hB, hB', hv, hr, hb⟩
 refine ⟨e', rfl, fun W hW => ?_, hb⟩
 obtain ⟨h1, h2⟩ := hr W (fun g a b => hW g a (by omega))
 exact ⟨o.1, h1, h2, (hv.frame (fun g a b c => hW g (by omega) a)).own.ok⟩

theorem set4 {w W : World} {B g : Nat} (h : Below B w W) (hg : B ≤ g) (a b c d : Value) : Below B w ((((W.setCell ⟨g, 0, none⟩ a).setCell ⟨g, 1, none⟩ b).setCell ⟨g, 2, none⟩ c).setCell ⟨g, 3, none⟩ d) :=
 (((h.setCell (p := ⟨g, 0, none⟩) hg a).setCell (p := ⟨g, 1, none⟩) hg b).setCell (p := ⟨g, 2, none⟩) hg c).setCell (p := ⟨g, 3, none⟩) hg d

theorem size4 (W : World) (g : Nat) (a b c d : Value) : ((((W.setCell ⟨g, 0, none⟩ a).setCell ⟨g, 1, none⟩ b).setCell ⟨g, 2, none⟩ c).setCell ⟨g, 3, none⟩ d).heap.size = W.heap.size := by simp [World.setCell]

/-- The four cells of a block, and that they may be written. -/
theorem four_blk {w : World} {g : Nat} {x y z u : Value} {t : TypeId} (k : SBlk w g [x, y, z, u] t) : (w.cell? ⟨g, 0, none⟩ = some x ∧ w.cell? ⟨g, 1, none⟩ = some y ∧ w.cell? ⟨g, 2, none⟩ = some z ∧ w.cell? ⟨g, 3, none⟩ = some u) ∧ w.frozen? ⟨g, 0, none⟩ = false ∧ w.frozen? ⟨g, 1, none⟩ = false ∧ w.frozen? ⟨g, 2, none⟩ = false ∧ w.frozen? ⟨g, 3, none⟩ = false := ⟨⟨k.cell 0, k.cell 1, k.cell 2, k.cell 3⟩, k.free 0, k.free 1, k.free 2, k.free 3⟩

set_option maxHeartbeats 4000000 in
theorem wonA_any (e : SnS) (x : Sn) (t : Sl) (w : World) (o : SNK.Ok w e x) (hs : 7 ≤ x.2.1.length) :
    Calls Tryz.prog 92 #[.agg (snvals e x), .slice t.a t.n t.c, .bool true] w fun r w' => ∃ e' : SnS, r = .returned (.tuple #[.agg (snvals e' x), .int .i64 10]) ∧ (∀ W : World, Std w.heap.size w' W → SNK.Ok W e x → SNK.Ok W e' x) ∧ Below w.heap.size w w' := by
 obtain ⟨kb, kr, bb⟩ := two_sblk w (snvals e x) #[.int .i64 0, .slice none 0 0, .slice none 0 0, .slice none 0 0] 37 37
 obtain ⟨W0, e0⟩ : ∃ W, (w.alloc (.cells (snvals e x) 37)).alloc (.cells #[.int .i64 0, .slice none 0 0, .slice none 0 0, .slice none 0 0] 37) = W := ⟨_, rfl⟩
 rw [e0] at kb kr bb
 have EA := hide e0
 clear e0
 have HBB := hide bb
 have hn : e.2.1.n = x.2.1.length := o.2.1.len
 have d7 : decide ((7 : Int) ≤ (e.2.1.n : Int)) = true := decide_eq_true (by omega)
 have HO := hide o
 obtain ⟨n, zss, rs, vs⟩ := x
 obtain ⟨⟨⟩, sg, sr, sv⟩ := e
 simp only at d7
 have HKB := hide (And.intro kb kr)
 unfold snvals at kb
 obtain ⟨⟨c0, c1, c2, c3⟩, _⟩ := four_blk kb
 obtain ⟨⟨r0, r1, r2, r3⟩, f0, f1, f2, f3⟩ := four_blk kr
 clear kb kr bb o hs hn HKB
 unfold snvals at EA ⊢
 go_enter Tryz.func92, Tryz.ntmps92
 go_upto_region 1 with fail
 rw [unhide EA]
 clear EA
 go_wp2_with fail
 have HF := set4 (unhide HBB) (Nat.le_succ w.heap.size) (.int .i64 n) (.slice sg.a sg.n sg.c) (.slice sr.a sr.n sr.c) (.slice sv.a sv.n sv.c)
 exact bodyPost_ret (v := .tuple #[.agg #[.int .i64 n, .slice sg.a sg.n sg.c, .slice sr.a sr.n sr.c, .slice sv.a sv.n sv.c], .int .i64 10]) (by simp [results, Tryz.results92, go_sem, r0, r1, r2, r3]) rfl ⟨(), sg, sr, sv, rfl, fun W _ h => h, HF⟩

set_option maxHeartbeats 4000000 in
theorem wonC_any (e : SnS) (x : Sn) (t : Sl) (w : World) (o : SNK.Ok w e x) (hs : x.2.1.length = 1) :
    Calls Tryz.prog 92 #[.agg (snvals e x), .slice t.a t.n t.c, .bool false] w fun r w' => ∃ e' : SnS, r = .returned (.tuple #[.agg (snvals e' x), .int .i64 0]) ∧ (∀ W : World, Std w.heap.size w' W → SNK.Ok W e x → SNK.Ok W e' x) ∧ Below w.heap.size w w' := by
 obtain ⟨kb, kr, bb⟩ := two_sblk w (snvals e x) #[.int .i64 0, .slice none 0 0, .slice none 0 0, .slice none 0 0] 37 37
 obtain ⟨W0, e0⟩ : ∃ W, (w.alloc (.cells (snvals e x) 37)).alloc (.cells #[.int .i64 0, .slice none 0 0, .slice none 0 0, .slice none 0 0] 37) = W := ⟨_, rfl⟩
 rw [e0] at kb kr bb
 have EA := hide e0
 clear e0
 have HBB := hide bb
 have hn : e.2.1.n = x.2.1.length := o.2.1.len
 have d7 : ((e.2.1.n : Int) == 1) = true := by rw [hn, hs]; rfl
 have HO := hide o
 obtain ⟨n, zss, rs, vs⟩ := x
 obtain ⟨⟨⟩, sg, sr, sv⟩ := e
 simp only at d7
 have HKB := hide (And.intro kb kr)
 unfold snvals at kb
 obtain ⟨⟨c0, c1, c2, c3⟩, _⟩ := four_blk kb
 obtain ⟨⟨r0, r1, r2, r3⟩, f0, f1, f2, f3⟩ := four_blk kr
 clear kb kr bb o hs hn HKB
 unfold snvals at EA ⊢
 go_enter Tryz.func92, Tryz.ntmps92
 go_upto_region 1 with fail
 rw [unhide EA]
 clear EA
 go_wp2_with fail
 have HF := set4 (unhide HBB) (Nat.le_succ w.heap.size) (.int .i64 n) (.slice sg.a sg.n sg.c) (.slice sr.a sr.n sr.c) (.slice sv.a sv.n sv.c)
 exact bodyPost_ret (v := .tuple #[.agg #[.int .i64 n, .slice sg.a sg.n sg.c, .slice sr.a sr.n sr.c, .slice sv.a sv.n sv.c], .int .i64 0]) (by simp [results, Tryz.results92, go_sem, r0, r1, r2, r3]) rfl ⟨(), sg, sr, sv, rfl, fun W _ h => h, HF⟩

theorem other4 {w : World} {g k : Nat} (h : ¬ k = g) (a b c d : Value) : ((((w.setCell ⟨g, 0, none⟩ a).setCell ⟨g, 1, none⟩ b).setCell ⟨g, 2, none⟩ c).setCell ⟨g, 3, none⟩ d).heap[k]? = w.heap[k]? := by
 rw [heap_setCell_other _ ⟨g, 3, none⟩ k d h, heap_setCell_other _ ⟨g, 2, none⟩ k c h, heap_setCell_other _ ⟨g, 1, none⟩ k b h, heap_setCell_other _ ⟨g, 0, none⟩ k a h]

set_option maxHeartbeats 4000000 in
theorem wonB_any (e : SnS) (x : Sn) (t : Sl) (z : List Int) (w : World) (o : SNK.Ok w e x) (m : SnSm x) (ot : BOk w t z) (hz : z.length ≤ 100000) (hp : 0 < x.2.1.length) (hs : x.2.1.length < 7) :
    Calls Tryz.prog 92 #[.agg (snvals e x), .slice t.a t.n t.c, .bool true] w fun r w' => ∃ e' : SnS, r = .returned (.tuple #[.agg (snvals e' (wonIn x z)), .int .i64 0]) ∧ (∀ W : World, Std w.heap.size w' W → SNK.Ok W e x → SNK.Ok W e' (wonIn x z)) ∧ Below w.heap.size w w' := by
 obtain ⟨kb, kr, bb⟩ := two_sblk w (snvals e x) #[.int .i64 0, .slice none 0 0, .slice none 0 0, .slice none 0 0] 37 37
 obtain ⟨W0, e0⟩ : ∃ W, (w.alloc (.cells (snvals e x) 37)).alloc (.cells #[.int .i64 0, .slice none 0 0, .slice none 0 0, .slice none 0 0] 37) = W := ⟨_, rfl⟩
 rw [e0] at kb kr bb
 have EA := hide e0
 clear e0
 have HBB := hide bb
 have hn : e.2.1.n = x.2.1.length := o.2.1.len
 have d7 : decide ((7 : Int) ≤ (e.2.1.n : Int)) = false := decide_eq_false (by omega)
 have DL := hide (l7Less_ok e x W0 (SNK.below o bb (Nat.le_refl _)) m ⟨none, 0, 0⟩ t [] z (bnil W0) (bytesK.below ot bb (Nat.le_refl _)))
 have HPU := hide (fun (W : World) (hb : Below w.heap.size w W) (sn sc b off : Nat) (es : List Sl) (h1 : b < W.heap.size) (h2 : es.length = x.2.1.length) (h3 : ∀ i e, es[i]? = some e → W.cell? ⟨b, off + i, none⟩ = some e.v) (h4 : ∀ (i : Nat) (e : Sl) (y : List Int), es[i]? = some e → x.2.1[i]? = some y → BOk W e y) (h5 : sn = x.2.1.length) (h6 : sn ≤ sc) => l7Put_any sn sc b off t es x.2.1 z W h1 h2 h3 h4 (bytesK.below ot hb (Nat.le_refl _)) h5 h6 hp (by omega) hz)
 have HO := hide (And.intro o.1 hp)
 obtain ⟨ta, tn, tc⟩ := t
 obtain ⟨n, zss, rs, vs⟩ := x
 obtain ⟨⟨⟩, sg, sr, sv⟩ := e
 simp only at d7
 have HKB := hide (fun (W : World) (hb : Below W0.heap.size W0 W) => kr.below hb kr.lt)
 have z0 : w.heap.size + 1 < W0.heap.size := kr.lt
 unfold snvals at kb
 obtain ⟨⟨c0, c1, c2, c3⟩, _⟩ := four_blk kb
 clear kb kr bb o hs hn hp hz m ot
 unfold snvals lessSn at DL
 unfold wonIn lessSn
 unfold snvals at EA ⊢
 simp only at DL ⊢
 generalize vs.filter (keepV [] z) = vs' at DL ⊢
 go_enter Tryz.func92, Tryz.ntmps92
 go_upto_region 1 with fail
 rw [unhide EA]
 clear EA
 go_wp2_with fail
 refine (unhide DL).mono ?_
 rintro r w5 ⟨⟨⟨⟩, s5, r5, v5⟩, rfl, ok5, b5⟩
 simp only at ok5 ⊢
 obtain ⟨es, b, off, ha, hbn, hbl, el, ec, eo⟩ := std_slices (unhide HO).2 (fun W hW => (ok5 W hW).2.1)
 have len5 := (ok5 w5 (fun _ _ _ => rfl)).2.1.len
 have room5 := (ok5 w5 (fun _ _ _ => rfl)).2.1.room
 obtain ⟨s5a, s5n, s5c⟩ := s5
 simp only at ha len5 room5
 subst ha
 have kg := SBlk.new w5 #[.int .i64 n, .slice (some ⟨b, off, none⟩) s5n s5c, .slice r5.a r5.n r5.c, .slice v5.a v5.n v5.c] 37
 have bg := below_alloc w5 (.cells #[.int .i64 n, .slice (some ⟨b, off, none⟩) s5n s5c, .slice r5.a r5.n r5.c, .slice v5.a v5.n v5.c] 37)
 obtain ⟨W6, e6⟩ : ∃ W, w5.alloc (.cells #[.int .i64 n, .slice (some ⟨b, off, none⟩) s5n s5c, .slice r5.a r5.n r5.c, .slice v5.a v5.n v5.c] 37) = W := ⟨_, rfl⟩
 rw [e6] at kg bg
 obtain ⟨gs, eg⟩ : ∃ g, g = w5.heap.size := ⟨_, rfl⟩
 rw [← eg] at kg
 have hz5 : W0.heap.size ≤ gs := by rw [eg]; exact b5.size
 have b06 := (unhide HBB).trans ((b5.trans (bg.mono b5.size)).mono (unhide HBB).size)
 have b06' := b5.trans (bg.mono b5.size)
 have st6 : Std (W0.heap.size + 2) w5 W6 := fun g _ h => bg.block g h
 have DP := hide ((unhide HPU) W6 b06 s5n s5c b off es (Nat.lt_of_lt_of_le hbl bg.size) el (ec W6 st6) (eo W6 st6) len5 room5)
 have HX := hide (And.intro ok5 (And.intro bg (And.intro b06 (And.intro b06' eo))))
 have HKG := hide kg
 have E6 := hide e6
 have EG := hide eg
 obtain ⟨⟨g0, g1, g2, g3⟩, y0, y1, y2, y3⟩ := four_blk kg
 clear e6 eg bg kg b5 b06 b06' ok5 HPU DL c0 c1 c2 c3 len5 room5 ec eo st6 el hbn hbl
 go_upto_region 5 with (rw [unhide E6])
 try rw [unhide E6]
 clear E6
 rw [← unhide EG]
 go_wp2_with fail
 refine (unhide DP).mono ?_
 rintro r w7 ⟨s7, rfl, ok7, b7⟩
 obtain ⟨ok5, bg, b06, b06', eo⟩ := unhide HX
 have eg := unhide EG
 have k7 := (unhide HKG).below b7 (unhide HKG).lt
 have kr7 := (unhide HKB) w7 (b06'.trans (b7.mono b06'.size))
 have k8 := k7.set 1 (.slice s7.a s7.n s7.c)
 have hne : ¬ w.heap.size + 1 = gs := by omega
 have kr8 := kr7.other (g' := gs) (i := 1) (v := .slice s7.a s7.n s7.c) hne
 simp only [List.set_cons_zero, List.set_cons_succ] at k8
 have q1 := k7.cell 1
 have p1 := k7.free 1
 simp only [List.getElem?_cons_zero, List.getElem?_cons_succ] at q1
 obtain ⟨w8, e8⟩ : ∃ W, w7.setCell ⟨gs, 1, none⟩ (.slice s7.a s7.n s7.c) = W := ⟨_, rfl⟩
 have b08 : Below w.heap.size w w8 := by rw [← e8]; exact (b06.trans (b7.mono b06.size)).setCell (p := ⟨gs, 1, none⟩) (by show w.heap.size ≤ gs; omega) _
 have o8 : ∀ k, ¬ k = gs → w8.heap[k]? = w7.heap[k]? := fun k hk => by rw [← e8]; exact heap_setCell_other w7 ⟨gs, 1, none⟩ k _ hk
 have hsz6 : W6.heap.size = gs + 1 ∨ gs < W6.heap.size := .inr (unhide HKG).lt
 have HS8 : Hid (w8.heap.size = w7.heap.size) := by show _ = _; rw [← e8]; simp [World.setCell]
 rw [e8] at k8 kr8
 have E8 := hide e8
 obtain ⟨⟨t0, t1, t2, t3⟩, _⟩ := four_blk k8
 obtain ⟨⟨r0, r1, r2, r3⟩, f0, f1, f2, f3⟩ := four_blk kr8
 have HY := hide (And.intro ok7 (And.intro b7 (And.intro b08 o8)))
 clear ok5 bg b06 b06' eo eg k7 kr7 k8 kr8 e8 ok7 b7 b08 o8 g0 g1 g2 g3 y0 y1 y2 y3
 go_upto_region 6 with (rw [unhide E8])
 try rw [unhide E8]
 clear E8 q1 p1
 go_wp2_with fail
 obtain ⟨ok5, bg, b06, b06', eo⟩ := unhide HX
 obtain ⟨ok7, b7, b08, o8⟩ := unhide HY
 have eg := unhide EG
 have HF := set4 b08 (Nat.le_succ w.heap.size) (.int .i64 n) (.slice s7.a s7.n s7.c) (.slice r5.a r5.n r5.c) (.slice v5.a v5.n v5.c)
 have hF : ∀ k, ¬ k = w.heap.size + 1 → ¬ k = gs → _ = w7.heap[k]? := fun k h1 h2 => (other4 (w := w8) h1 (.int .i64 n) (.slice s7.a s7.n s7.c) (.slice r5.a r5.n r5.c) (.slice v5.a v5.n v5.c)).trans (o8 k h2)
 have stF : Std (W0.heap.size + 2) w5 _ := fun g h1 h2 => (hF g (by omega) (by omega)).trans ((b7.block g (by have := bg.size; omega)).trans (bg.block g h2))
 refine bodyPost_ret (v := .tuple #[.agg #[.int .i64 n, .slice s7.a s7.n s7.c, .slice r5.a r5.n r5.c, .slice v5.a v5.n v5.c], .int .i64 0]) (by simp [results, Tryz.results92, go_sem, r0, r1, r2, r3]) rfl ⟨((), s7, r5, v5), rfl, fun W hW _ => ?_, HF⟩
 have sF := size4 w8 (w.heap.size + 1) (.int .i64 n) (.slice s7.a s7.n s7.c) (.slice r5.a r5.n r5.c) (.slice v5.a v5.n v5.c)
 have s8 : w8.heap.size = w7.heap.size := unhide HS8
 have s7' := b7.size
 have sg' := bg.size
 have stW : Std (W0.heap.size + 2) w5 W := fun g h1 h2 => (hW g (by omega) (by rw [sF]; omega)).trans (stF g h1 h2)
 exact ⟨(unhide HO).1, ok7 W (fun g h1 h2 => (hW g (by omega) (by rw [sF]; omega)).trans (hF g (by omega) (by omega))) (eo W stW), (ok5 W stW).2.2.1, (ok5 W stW).2.2.2⟩

set_option maxRecDepth 100000

theorem atFrom_in {zss : List (List Int)} {z : List Int} (h : z ∈ zss) : ∃ K : Nat, atFrom z 0 zss = (K : Int) ∧ K < zss.length ∧ zss[K]? = some z := by
 have key : ∀ (l : List (List Int)) (k : Nat), z ∈ l → ∃ K : Nat, atFrom z k l = ((k + K : Nat) : Int) ∧ K < l.length ∧ l[K]? = some z := by
  intro l
  induction l with
  | nil => intro k h; cases h
  | cons y r ih =>
   intro k h
   unfold atFrom
   by_cases hy : y = z
   · exact ⟨0, by rw [if_pos hy]; simp, by simp, by simp [hy]⟩
   · rw [if_neg hy]
     obtain ⟨K, h1, h2, h3⟩ := ih (k + 1) ((List.mem_cons.1 h).resolve_left (fun e => hy e.symm))
     exact ⟨K + 1, by rw [h1]; congr 1; omega, by simpa using h2, by simpa using h3⟩
 obtain ⟨K, h1, h2, h3⟩ := key zss 0 h
 exact ⟨K, by rw [h1]; congr 1; omega, h2, h3⟩

set_option maxHeartbeats 8000000 in
theorem wonD_any (e : SnS) (x : Sn) (t : Sl) (z : List Int) (w : World) (o : SNK.Ok w e x) (m : SnSm x) (ot : BOk w t z) (hin : z ∈ x.2.1) (hs : 1 < x.2.1.length) (hl : x.2.1.length ≤ 100000) :
    Calls Tryz.prog 92 #[.agg (snvals e x), .slice t.a t.n t.c, .bool false] w fun r w' => ∃ e' : SnS, r = .returned (.tuple #[.agg (snvals e' (wonOut x z)), .int .i64 0]) ∧ (∀ W : World, Std w.heap.size w' W → SNK.Ok W e x → SNK.Ok W e' (wonOut x z)) ∧ Below w.heap.size w w' := by
 obtain ⟨i0, hi, hz0, hz1, hz2⟩ := info_parts infoSB
 obtain ⟨kb, kr, bb⟩ := two_sblk w (snvals e x) #[.int .i64 0, .slice none 0 0, .slice none 0 0, .slice none 0 0] 37 37
 obtain ⟨W0, e0⟩ : ∃ W, (w.alloc (.cells (snvals e x) 37)).alloc (.cells #[.int .i64 0, .slice none 0 0, .slice none 0 0, .slice none 0 0] 37) = W := ⟨_, rfl⟩
 rw [e0] at kb kr bb
 have EA := hide e0
 clear e0
 have HBB := hide bb
 have hn : e.2.1.n = x.2.1.length := o.2.1.len
 have d7 : ((e.2.1.n : Int) == 1) = false := by simp; omega
 have DL := hide (l7Less_ok e x W0 (SNK.below o bb (Nat.le_refl _)) m ⟨none, 0, 0⟩ t [] z (bnil W0) (bytesK.below ot bb (Nat.le_refl _)))
 have HL2 := hide (fun (W : World) (hb : Below w.heap.size w W) (e' : SnS) (h : SNK.Ok W e' (lessSn x [] z)) => l7Less_ok e' (lessSn x [] z) W h (less_sm m [] z) t ⟨none, 0, 0⟩ z [] (bytesK.below ot hb (Nat.le_refl _)) (bnil W))
 have HAT := hide (fun (W : World) (hb : Below w.heap.size w W) (s : Sl) (h : RowOk bytesK W s x.2.1) => l7At_any s t x.2.1 z W h (bytesK.below ot hb (Nat.le_refl _)) (by omega))
 obtain ⟨K, hK, hKl, hKz⟩ := atFrom_in hin
 rw [hK] at HAT
 have HO := hide (And.intro o.1 (show 0 < x.2.1.length by omega))
 have HRM := hide m.r
 have hWO : Hid (wonOut x z = (x.1, outL x.2.1 K, keepLast x.2.2.1 ((outL x.2.1 K).length / 2), (lessSn (lessSn x [] z) z []).2.2.2)) := by show _ = _; unfold wonOut; rw [hK]; rfl
 have hLz : (outL x.2.1 K).length = x.2.1.length - 1 := by unfold outL; rw [List.length_append, List.length_take, List.length_drop]; omega
 generalize wonOut x z = XX at hWO ⊢
 generalize hvv : (lessSn (lessSn x [] z) z []).2.2.2 = vv at hWO
 obtain ⟨ta, tn, tc⟩ := t
 obtain ⟨n, zss, rs, vs⟩ := x
 obtain ⟨⟨⟩, sg, sr, sv⟩ := e
 simp only at d7 hs hl hKl hWO hLz
 have HKB := hide (fun (W : World) (hb : Below W0.heap.size W0 W) => kr.below hb kr.lt)
 have z0 : w.heap.size + 1 < W0.heap.size := kr.lt
 unfold snvals at kb
 obtain ⟨⟨c0, c1, c2, c3⟩, _⟩ := four_blk kb
 have HV := hide hvv
 clear kb kr bb o hn m ot hin hvv hK hKz
 unfold snvals at EA DL ⊢
 simp only at DL ⊢
 go_enter Tryz.func92, Tryz.ntmps92
 go_upto_region 1 with fail
 rw [unhide EA]
 clear EA
 go_wp2_with fail
 refine (unhide DL).mono ?_
 rintro r w5 ⟨e5, rfl, ok5, b5⟩
 have b05 := (unhide HBB).trans (b5.mono (unhide HBB).size)
 have D2 := hide ((unhide HL2) w5 b05 e5 (ok5 w5 (fun _ _ _ => rfl)))
 have H5 := hide (And.intro b5 b05)
 clear DL HL2 ok5 b5 b05 c0 c1 c2 c3
 unfold snvals at D2
 go_wp2_with fail
 refine (unhide D2).mono ?_
 rintro r w6 ⟨⟨⟨⟩, s6, r6, v6⟩, rfl, ok6, b6⟩
 simp only [lessSn] at ok6 ⊢
 obtain ⟨es, b, off, ha, hbn, hbl, el, ec, eo⟩ := std_slices (unhide HO).2 (fun W hW => (ok6 W hW).2.1)
 have len6 := (ok6 w6 (fun _ _ _ => rfl)).2.1.len
 have room6 := (ok6 w6 (fun _ _ _ => rfl)).2.1.room
 obtain ⟨s6a, s6n, s6c⟩ := s6
 simp only at ha len6 room6
 subst ha
 have kg := SBlk.new w6 #[.int .i64 n, .slice (some ⟨b, off, none⟩) s6n s6c, .slice r6.a r6.n r6.c, .slice v6.a v6.n v6.c] 37
 have bg := below_alloc w6 (.cells #[.int .i64 n, .slice (some ⟨b, off, none⟩) s6n s6c, .slice r6.a r6.n r6.c, .slice v6.a v6.n v6.c] 37)
 obtain ⟨W7, e7⟩ : ∃ W, w6.alloc (.cells #[.int .i64 n, .slice (some ⟨b, off, none⟩) s6n s6c, .slice r6.a r6.n r6.c, .slice v6.a v6.n v6.c] 37) = W := ⟨_, rfl⟩
 rw [e7] at kg bg
 obtain ⟨gs, eg⟩ : ∃ g, g = w6.heap.size := ⟨_, rfl⟩
 rw [← eg] at kg
 have hz6 : w5.heap.size ≤ gs := by rw [eg]; exact b6.size
 have hz5 := (unhide H5).1.size
 have b56 := b6.trans (bg.mono b6.size)
 have b07' := (unhide H5).1.trans (b56.mono hz5)
 have b07 := (unhide H5).2.trans (b56.mono (unhide H5).2.size)
 have st7 : Std (w5.heap.size + 2) w6 W7 := fun g _ h => bg.block g h
 have DA := hide ((unhide HAT) W7 b07 ⟨some ⟨b, off, none⟩, s6n, s6c⟩ (ok6 W7 st7).2.1)
 have HX := hide (And.intro ok6 (And.intro bg (And.intro b07 (And.intro b07' (And.intro eo (And.intro ec (And.intro el (And.intro hbn hbl))))))))
 have HKG := hide kg
 have E7 := hide e7
 have EG := hide eg
 have HLN := hide len6
 obtain ⟨⟨g0, g1, g2, g3⟩, y0, y1, y2, y3⟩ := four_blk kg
 have g1a : ∀ o, (W7.alloc o).cell? ⟨gs, 1, none⟩ = some (.slice (some ⟨b, off, none⟩) s6n s6c) := fun o => ((below_alloc W7 o).cell (p := ⟨gs, 1, none⟩) kg.lt).trans g1
 have hown0 : (W7.alloc (.cells #[] 29)).ownsRow W7.heap.size 29 1 (.slice (some ⟨W7.heap.size, 0, none⟩) 0 0) 0 [] := World.ownsRow_lit W7 #[] 0 (Nat.le_refl _) (by unfold maxLen; omega) rfl
 have k0 : (0 : Int) ≤ (K : Int) := by omega
 have k1 : (K : Int) ≤ (s6n : Int) := by omega
 have k2 : (s6n : Int) ≤ (s6c : Int) := by omega
 have HNT : Hid (∀ W, Below W7.heap.size W7 W → ∀ (j : Nat) u, ((es.map Sl.v).take K)[j]? = some u → W.cell? ((⟨b, off, none⟩ : Addr).add j) = some u) := fun W hbW j u hu => by
  refine sl_news (es := es) (ec W (fun g _ h => (hbW.block g (Nat.lt_of_lt_of_le h bg.size)).trans (bg.block g h))) 0 K off rfl j u ?_
  rw [List.drop_zero, List.map_take]
  exact hu
 clear e7 eg bg kg b6 b07 b07' b56 ok6 HAT D2 len6 ec eo st7 el hbn hbl
 go_upto_region 10 with (rw [unhide E7])
 try rw [unhide E7]
 clear E7
 rw [← unhide EG]
 go_wp2_with fail
 refine (unhide DA).mono ?_
 rintro r w7 ⟨rfl, rfl⟩
 go_wp2_with (at_builtin; refine wpList_append_own _ rfl _ _ 24 rfl w7.heap.size 29 i0 (.slice none 0 0) 1 24 Tryz.underlying24 hi hz0 hz1 hz2 rfl (by decide) _ _ _ rfl hown0 ⟨b, off, none⟩ K _ ((es.map Sl.v).take K) rfl ?c0 ?c1 ?c2 ?c3 ?c4 ?c5 ?_)
 try case c0 => first | (rw [List.length_take, List.length_map]; have := (unhide HX).2.2.2.2.2.2.1; have := unhide HLN; omega) | (have := (unhide HX).2.2.2.2.2.2.1; have := unhide HLN; omega)
 try case c1 => first | exact (unhide HNT) _ (below_alloc _ _) | (intro j u hu; rw [← add_none]; exact (unhide HNT) _ (Below.refl _ _) j u hu)
 try case c2 => intro u hu; obtain ⟨e, _, rfl⟩ := List.mem_map.1 (List.mem_of_mem_take hu); rfl
 try case c3 => unfold maxLen; omega
 try case c4 => omega
 try case c5 => simp
 intro v' w9 hown9 hgrow9 hv9n
 try rw [List.nil_append, Nat.zero_add] at hown9
 have b79 : Below w7.heap.size w7 w9 := (below_alloc w7 (.cells #[] 29)).grown hgrow9 (by simp) (fun g e => (hown0.lt g e).1)
 have kg9 := (unhide HKG).below b79 (unhide HKG).lt
 clear g0 g1 g2 g3 y0 y1 y2 y3 g1a hv9n
 obtain ⟨⟨g0, g1, g2, g3⟩, y0, y1, y2, y3⟩ := four_blk kg9
 have H9 := hide (And.intro hown9 (And.intro b79 kg9))
 obtain ⟨o', ho'⟩ : ∃ o', o' = if s6c = K + 1 then off else off + (K + 1) := ⟨_, rfl⟩
 have hif : (if s6c = K + 1 then some (⟨b, off, none⟩ : Addr) else some ⟨b, off + (K + 1), none⟩) = some ⟨b, o', none⟩ := by rw [ho']; split <;> rfl
 have HNW : Hid (∀ W, Below w7.heap.size w7 W → ∀ (j : Nat) u, ((es.map Sl.v).drop (K + 1))[j]? = some u → W.cell? ((⟨b, o', none⟩ : Addr).add j) = some u) := fun W hbW j u hu => by
  obtain ⟨ok6, bg, _, _, eo, ec, el, _, _⟩ := unhide HX
  have hj := (List.getElem?_eq_some_iff.1 hu).1
  rw [List.length_drop, List.length_map] at hj
  have hne : ¬ s6c = K + 1 := by have := unhide HLN; omega
  rw [ho', if_neg hne]
  rw [← List.map_drop] at hu
  refine sl_news (es := es) (ec W (fun g _ h => (hbW.block g (Nat.lt_of_lt_of_le h bg.size)).trans (bg.block g h))) (K + 1) (es.length - (K + 1)) (off + (K + 1)) rfl j u ?_
  rw [← List.length_drop, List.take_length]
  exact hu
 have k3 : (K : Int) + 1 ≤ (s6n : Int) := by have := unhide HLN; omega
 have k4 : (0 : Int) ≤ (K : Int) + 1 := by omega
 have k5 : ((K : Int) + 1).toNat = K + 1 := by omega
 clear ho' hown0 HNT b79 kg9 DA hgrow9
 go_wp2_with (at_builtin; refine wpList_append_own _ rfl _ _ 24 rfl w7.heap.size 29 i0 (.slice none 0 0) 1 24 Tryz.underlying24 hi hz0 hz1 hz2 rfl (by decide) _ _ _ rfl hown9 ⟨b, o', none⟩ (s6n - (K + 1)) _ ((es.map Sl.v).drop (K + 1)) rfl ?c0 ?c1 ?c2 ?c3 ?c4 ?c5 ?_)
 try case c0 => first | (rw [List.length_drop, List.length_map]; have := (unhide HX).2.2.2.2.2.2.1; have := unhide HLN; omega) | (have := (unhide HX).2.2.2.2.2.2.1; have := unhide HLN; omega)
 try case c1 => exact (unhide HNW) _ (unhide H9).2.1
 try case c2 => intro u hu; obtain ⟨e, _, rfl⟩ := List.mem_map.1 (List.mem_of_mem_drop hu); rfl
 try case c3 => unfold maxLen; have := unhide HLN; omega
 try case c4 => have := unhide HLN; omega
 try case c5 => exact (unhide H9).2.1.size
 intro v11 w11 hown11 hgrow11 hv11n
 obtain ⟨a11, c11, rfl⟩ := own_val hown11
 obtain ⟨N, eN⟩ : ∃ N, N = K + (s6n - (K + 1)) := ⟨_, rfl⟩
 rw [← eN] at hown11 ⊢
 obtain ⟨own9, b79, kg9⟩ := unhide H9
 have b711 : Below w7.heap.size w7 w11 := b79.grown hgrow11 b79.size (fun g e => (own9.lt g e).1)
 have hgl := (unhide HKG).lt
 have kg11 := (hgrow11.block gs kg9.lt (fun e => by have := (own9.lt gs e.symm).1; omega)).trans kg9
 have kr11 := (unhide HKB) w11 ((unhide HX).2.2.2.1.trans (b711.mono (unhide HX).2.2.2.1.size))
 have hne : ¬ w.heap.size + 1 = gs := by omega
 have q1 := SBlk.cell kg11 1
 have p1 := SBlk.free kg11 1
 have k12 := SBlk.set kg11 1 (.slice a11 N c11)
 have kr12 := kr11.other (g' := gs) (i := 1) (v := .slice a11 N c11) hne
 simp only [List.set_cons_zero, List.set_cons_succ, List.getElem?_cons_zero, List.getElem?_cons_succ] at k12 q1
 obtain ⟨w12, e12⟩ : ∃ W, w11.setCell ⟨gs, 1, none⟩ (.slice a11 N c11) = W := ⟨_, rfl⟩
 have o12 : ∀ k, ¬ k = gs → w12.heap[k]? = w11.heap[k]? := fun k hk => by rw [← e12]; exact heap_setCell_other w11 ⟨gs, 1, none⟩ k _ hk
 have s12 : w12.heap.size = w11.heap.size := by rw [← e12]; simp [World.setCell]
 have b12 : Below gs w7 w12 := by rw [← e12]; exact (b711.mono (Nat.le_of_lt hgl)).setCell (p := ⟨gs, 1, none⟩) (Nat.le_refl _) _
 rw [e12] at k12 kr12
 have E12 := hide e12
 clear g0 g1 g2 g3 y0 y1 y2 y3
 obtain ⟨⟨g0, g1, g2, g3⟩, y0, y1, y2, y3⟩ := four_blk k12
 have hNl : N = zss.length - 1 := by have := unhide HLN; omega
 have HN := hide hNl
 have hN5 : N ≤ 100000 := by omega
 have HZ := hide (And.intro hown11 (And.intro b711 (And.intro o12 (And.intro s12 (And.intro b12 (And.intro k12 kr12))))))
 have hq : Int.tdiv (N : Int) 2 = ((N / 2 : Nat) : Int) := by rfl
 clear hown11 hgrow11 hv11n own9 b79 kg9 b711 hgl kg11 kr11 k12 kr12 o12 s12 b12 e12 eN hNl hown9 HNW
 go_upto_region 13 with (rw [unhide E12])
 try rw [unhide E12]
 clear E12 q1 p1
 obtain ⟨H, hH⟩ : ∃ H, H = N / 2 := ⟨_, rfl⟩
 have s1 : (N : Int).tdiv 2 = (H : Int) := by rw [Int.tdiv_eq_ediv_of_nonneg (by omega)]; omega
 have s1' : (N : Int) / 2 = (H : Int) := by omega
 have HH := hide hH
 have hH5 : H ≤ 100000 := by omega
 have hrm : r6.n ≤ 1048576 := by
  have h1 : r6.n = rs.length := ((unhide HX).1 w6 (fun _ _ _ => rfl)).2.2.1.len
  have := unhide HRM
  omega
 have kr12 := (unhide HZ).2.2.2.2.2.2
 have b08 : Below w.heap.size w w12 := (unhide HX).2.2.1.trans ((unhide HZ).2.2.2.2.1.mono (by have := (unhide HBB).size; omega))
 clear hq hH
 by_cases hr : H < r6.n
 · have hok := ((unhide HX).1 w6 (fun _ _ _ => rfl)).2.2.1
   obtain ⟨rb, ro, ra, _, _⟩ := hok.pos (by show 0 < r6.n; omega)
   have hrc := hok.room
   obtain ⟨r6a, r6n, r6c⟩ := r6
   simp only at ra hr hrm hrc g2
   subst ra
   obtain ⟨q, hqe⟩ : ∃ q, r6n - H = q := ⟨_, rfl⟩
   have s2 : (r6n : Int) - (H : Int) = (q : Int) := by omega
   have s3 : (q : Int) ≤ (r6n : Int) := by omega
   have s4 : (r6n : Int) ≤ (r6c : Int) := by omega
   have s5 : (0 : Int) ≤ (q : Int) := by omega
   have s6 : decide ((H : Int) < (r6n : Int)) = true := decide_eq_true (by omega)
   obtain ⟨ro2, hro2⟩ : ∃ o', o' = if r6c = q then ro else ro + q * 2 := ⟨_, rfl⟩
   have hif2 : (if r6c = q then some (⟨rb, ro, none⟩ : Addr) else some ⟨rb, ro + q * 2, none⟩) = some ⟨rb, ro2, none⟩ := by rw [hro2]; split <;> rfl
   have hgr : ¬ w.heap.size + 1 = gs := hne
   have k12 := (unhide HZ).2.2.2.2.2.1
   have k13 := k12.set 2 (.slice (some ⟨rb, ro2, none⟩) (r6n - q) (r6c - q))
   have kr13 := kr12.other (g' := gs) (i := 2) (v := .slice (some ⟨rb, ro2, none⟩) (r6n - q) (r6c - q)) hne
   simp only [List.set_cons_zero, List.set_cons_succ] at k13
   obtain ⟨w13, e13⟩ : ∃ W, w12.setCell ⟨gs, 2, none⟩ (.slice (some ⟨rb, ro2, none⟩) (r6n - q) (r6c - q)) = W := ⟨_, rfl⟩
   have o13 : ∀ k, ¬ k = gs → w13.heap[k]? = w12.heap[k]? := fun k hk => by rw [← e13]; exact heap_setCell_other w12 ⟨gs, 2, none⟩ k _ hk
   have b08 : Below w.heap.size w w13 := by rw [← e13]; exact b08.setCell (p := ⟨gs, 2, none⟩) (by show w.heap.size ≤ gs; omega) _
   have HS13 : Hid (w13.heap.size = w12.heap.size) := by show _ = _; rw [← e13]; simp [World.setCell]
   rw [e13] at k13 kr13
   have E13 := hide e13
   obtain ⟨⟨t0, t1, t2, t3⟩, _⟩ := four_blk k13
   obtain ⟨⟨r0, r1, r2, r3⟩, f0, f1, f2, f3⟩ := four_blk kr13
   have H13 := hide (And.intro o13 (And.intro b08 (And.intro hqe (And.intro hro2 hr))))
   clear hok hrc hqe k12 k13 kr13 kr12 e13 o13 b08 hro2
   go_upto_region 16 with (rw [unhide E13])
   try rw [unhide E13]
   clear E13
   go_wp2_with fail
   obtain ⟨o13, b08, hqe, hro2, _⟩ := unhide H13
   obtain ⟨ok6, bg, b07, b07', eo, ec, el, hbn, hbl⟩ := unhide HX
   obtain ⟨own11, b711, o12, s12, b12, _, _⟩ := unhide HZ
   have eg := unhide EG
   have hln := unhide HLN
   have hgl := (unhide HKG).lt
   have HF := set4 b08 (Nat.le_succ w.heap.size) (.int .i64 n) (.slice a11 N c11) (.slice (some ⟨rb, ro2, none⟩) (r6n - q) (r6c - q)) (.slice v6.a v6.n v6.c)
   have hF : ∀ k, ¬ k = w.heap.size + 1 → ¬ k = gs → _ = w11.heap[k]? := fun k h1 h2 => (other4 (w := w13) h1 (.int .i64 n) (.slice a11 N c11) (.slice (some ⟨rb, ro2, none⟩) (r6n - q) (r6c - q)) (.slice v6.a v6.n v6.c)).trans ((o13 k h2).trans (o12 k h2))
   have stF : Std (w5.heap.size + 2) w6 _ := fun g h1 h2 => (hF g (by omega) (by omega)).trans ((b711.block g (by have := bg.size; omega)).trans (bg.block g h2))
   refine bodyPost_ret (v := .tuple #[.agg #[.int .i64 n, .slice a11 N c11, (.slice (some ⟨rb, ro2, none⟩) (r6n - q) (r6c - q)), .slice v6.a v6.n v6.c], .int .i64 0]) (by simp [results, Tryz.results92, go_sem, r0, r1, r2, r3]) rfl ?_
   rw [unhide hWO]
   have sF := size4 w13 (w.heap.size + 1) (.int .i64 n) (.slice a11 N c11) (.slice (some ⟨rb, ro2, none⟩) (r6n - q) (r6c - q)) (.slice v6.a v6.n v6.c)
   have sX : w13.heap.size = w11.heap.size := (unhide HS13).trans s12
   have s711 := b711.size
   have s67 := bg.size
   refine ⟨(), ⟨a11, N, c11⟩, ⟨some ⟨rb, ro2, none⟩, r6n - q, r6c - q⟩, v6, rfl, fun W hW _ => ?_, HF⟩
   have hF : ∀ k, w.heap.size ≤ k → k < w11.heap.size → ¬ k = w.heap.size + 1 → ¬ k = gs → W.heap[k]? = w11.heap[k]? := fun k h0 h00 h1 h2 => (hW k h0 (by rw [sF, sX]; exact h00)).trans (hF k h1 h2)
   have stF : Std (w5.heap.size + 2) w6 W := fun g h1 h2 => (hW g (by omega) (by rw [sF, sX]; omega)).trans (stF g h1 h2)
   refine ⟨(unhide HO).1, ?_, ?_, ?_⟩
   · have own : World.ownsRow W w7.heap.size 29 1 (.slice a11 N c11) N ((es.take K ++ es.drop (K + 1)).map Sl.v) := own_frame (w' := W) (by rw [List.map_append, List.map_take, List.map_drop]; exact own11) (fun x hx => by have hx' := own11.lt x.block (by rw [hx]; rfl); exact hF x.block (by omega) hx'.2 (by omega) (by omega))
     obtain ⟨p1, p2⟩ := out_slices (k := K) el (eo W stF)
     exact row_own p1 own p2
   · show RowOk rcK W _ (keepLast rs ((outL zss K).length / 2))
     unfold keepLast
     rw [hLz, ← unhide HN, ← unhide HH]
     have hr6 : RowOk rcK W ⟨some ⟨rb, ro, none⟩, r6n, r6c⟩ rs := (ok6 W stF).2.2.1
     have hrl : r6n = rs.length := hr6.len
     rw [if_pos (by omega), show rs.length - H = q by rw [← hrl, hqe]]
     exact hr6.tail q ro2 (by omega) (fun h => by rw [hro2, if_neg h]; rfl)
   · have := (ok6 W stF).2.2.2
     rw [← unhide HV]
     exact this
 · have s6 : decide ((H : Int) < (r6.n : Int)) = false := decide_eq_false (by omega)
   obtain ⟨⟨r0, r1, r2, r3⟩, f0, f1, f2, f3⟩ := four_blk kr12
   have H13 := hide (And.intro b08 hr)
   clear kr12 b08
   go_wp2_with fail
   obtain ⟨b08, _⟩ := unhide H13
   obtain ⟨ok6, bg, b07, b07', eo, ec, el, hbn, hbl⟩ := unhide HX
   obtain ⟨own11, b711, o12, s12, b12, _, _⟩ := unhide HZ
   have eg := unhide EG
   have hln := unhide HLN
   have hgl := (unhide HKG).lt
   have HF := set4 b08 (Nat.le_succ w.heap.size) (.int .i64 n) (.slice a11 N c11) (.slice r6.a r6.n r6.c) (.slice v6.a v6.n v6.c)
   have hF : ∀ k, ¬ k = w.heap.size + 1 → ¬ k = gs → _ = w11.heap[k]? := fun k h1 h2 => (other4 (w := w12) h1 (.int .i64 n) (.slice a11 N c11) (.slice r6.a r6.n r6.c) (.slice v6.a v6.n v6.c)).trans (o12 k h2)
   have stF : Std (w5.heap.size + 2) w6 _ := fun g h1 h2 => (hF g (by omega) (by omega)).trans ((b711.block g (by have := bg.size; omega)).trans (bg.block g h2))
   refine bodyPost_ret (v := .tuple #[.agg #[.int .i64 n, .slice a11 N c11, (.slice r6.a r6.n r6.c), .slice v6.a v6.n v6.c], .int .i64 0]) (by simp [results, Tryz.results92, go_sem, r0, r1, r2, r3]) rfl ?_
   rw [unhide hWO]
   have sF := size4 w12 (w.heap.size + 1) (.int .i64 n) (.slice a11 N c11) (.slice r6.a r6.n r6.c) (.slice v6.a v6.n v6.c)
   have sX : w12.heap.size = w11.heap.size := s12
   have s711 := b711.size
   have s67 := bg.size
   refine ⟨((), ⟨a11, N, c11⟩, r6, v6), rfl, fun W hW _ => ?_, HF⟩
   have hF : ∀ k, w.heap.size ≤ k → k < w11.heap.size → ¬ k = w.heap.size + 1 → ¬ k = gs → W.heap[k]? = w11.heap[k]? := fun k h0 h00 h1 h2 => (hW k h0 (by rw [sF, sX]; exact h00)).trans (hF k h1 h2)
   have stF : Std (w5.heap.size + 2) w6 W := fun g h1 h2 => (hW g (by omega) (by rw [sF, sX]; omega)).trans (stF g h1 h2)
   refine ⟨(unhide HO).1, ?_, ?_, ?_⟩
   · have own : World.ownsRow W w7.heap.size 29 1 (.slice a11 N c11) N ((es.take K ++ es.drop (K + 1)).map Sl.v) := own_frame (w' := W) (by rw [List.map_append, List.map_take, List.map_drop]; exact own11) (fun x hx => by have hx' := own11.lt x.block (by rw [hx]; rfl); exact hF x.block (by omega) hx'.2 (by omega) (by omega))
     obtain ⟨p1, p2⟩ := out_slices (k := K) el (eo W stF)
     exact row_own p1 own p2
   · show RowOk rcK W _ (keepLast rs ((outL zss K).length / 2))
     unfold keepLast
     rw [hLz, ← unhide HN, ← unhide HH]
     have hr6 : RowOk rcK W r6 rs := (ok6 W stF).2.2.1
     have hrl : r6.n = rs.length := hr6.len
     rw [if_neg (by omega)]
     exact hr6
   · have := (ok6 W stF).2.2.2
     rw [← unhide HV]
     exact this

end Go.Proofs.YtdmcmlcmgbbclaaGreat
