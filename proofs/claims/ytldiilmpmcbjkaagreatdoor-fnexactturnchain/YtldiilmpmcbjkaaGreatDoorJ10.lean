/- What is proved here: what the program's addVotes answers: the votes of a header as items behind others. -/
import Derived.Test.YtldiilmpmcbjkaaGreatDoorJ9
import Derived.Deep.RegionHeld3
import Derived.Deep.DeepCutAuto
import Derived.Deep.CutBlock
import Derived.Deep.AppendLies
import Derived.Test.YtldiilmpmcbjkaaGreatDoorJ8
import Derived.Test.YtldiilmpmcbjkaaGreatDoorJ7
import Derived.WalkKit
import Derived.WalkLawsBesides
import Derived.WalkSmall
import Derived.WalkSpells
import Derived.KernelRfl
import Derived.Test.YtldiilmpmcbjkaaGreatDoorChecked
namespace Go.Proofs.YtldiilmpmcbjkaaGreatDoor
open Go.RowKit
set_option linter.unusedVariables false
set_option maxRecDepth 100000

/-- Slices of bytes that were there, as parts. -/
theorem prow_of {w0 : World} {a : Option Addr} {len : Nat} {zss : List (List Int)} (h : BsRow w0 a len zss) (hn : BsNil w0 a len) (B : Nat) (W : World) : PRow w0 B W a len zss := by
  rcases Nat.eq_zero_or_pos len with h0 | hp
  · subst h0
    have hz : zss = [] := List.length_eq_zero_iff.1 h.1
    subst hz
    exact ⟨rfl, fun z hz => by simp at hz, [], rfl, fun i z u hz => by simp at hz, .inr (.inr rfl)⟩
  · obtain ⟨b, off, rfl, _, hat⟩ := h.at hp
    refine ⟨h.1, h.2.1, (List.range len).map (fun i => (w0.cell? ⟨b, off + i, none⟩).getD undef), by simp, fun i z u hz hu => ?_, .inl ⟨b, off, rfl, fun i u hu => ?_⟩⟩
    · have hi : i < len := by have := (List.getElem?_eq_some_iff.1 hz).1; rw [h.1] at this; exact this
      obtain ⟨sa, sl, sc, hc, hr⟩ := hat i z hz
      obtain ⟨sa', sl', sc', hc', hnn⟩ := hn b off rfl i hi
      rw [hc] at hc'
      simp only [Option.some.injEq, Value.slice.injEq] at hc'
      obtain ⟨rfl, rfl, rfl⟩ := hc'
      rw [List.getElem?_map, List.getElem?_range hi] at hu
      simp only [Option.map_some, Option.some.injEq, hc, Option.getD_some] at hu
      exact .inl ⟨sa, sl, sc, hu.symm, hr, hnn⟩
    · have hi : i < len := by have := (List.getElem?_eq_some_iff.1 hu).1; simpa using this
      obtain ⟨z, hz⟩ : ∃ z, zss[i]? = some z := ⟨_, List.getElem?_eq_getElem (by rw [h.1]; exact hi)⟩
      obtain ⟨sa, sl, sc, hc, hr⟩ := hat i z hz
      rw [List.getElem?_map, List.getElem?_range hi] at hu
      simp only [Option.map_some, Option.some.injEq, hc, Option.getD_some] at hu
      rw [hc, hu]

/-- Parts that were laid side by side just now. -/
theorem prow_lit {w0 w1 : World} {B : Nat} (us : Array Value) (zss : List (List Int)) (hl : zss.length = us.size) (hB : B ≤ w1.heap.size) (hm : ∀ z ∈ zss, z.length ≤ maxLen) (hu1 : us.size ≤ 10) (hs : ∀ (i : Nat) (z : List Int) (u : Value), zss[i]? = some z → us.toList[i]? = some u → Src w0 B w1 u z) :
    PRow w0 B (w1.alloc (.cells us 60)) (some ⟨w1.heap.size, 0, none⟩) us.size zss :=
  ⟨hl, hm, us.toList, by simp, fun i z u hz hu => (hs i z u hz hu).below (below_alloc w1 _) (Nat.le_refl _), .inr (.inl ⟨us.size, World.ownsRow_lit w1 us us.size hB (by unfold maxLen; omega) (Nat.mul_one _).symm⟩)⟩

set_option maxRecDepth 100000 in
set_option maxHeartbeats 8000000 in
theorem addVotes_any (w0 : World) (B : Nat) (hw0 : w0.heap.size ≤ B) (x : HS) (h : Hd) (gd : HGood h) (ht : BRow w0 x.t.a x.t.n h.t) (hnt : x.t.a = none → x.t.c = 0) (hs : BsRow w0 x.s.a x.s.n h.s) (hns : BsNil w0 x.s.a x.s.n) (a : Option Addr) (n c : Nat) (its : List It) (W : World) (hm : HkR w0 B W (.slice a n c) n its) (hB : B ≤ W.heap.size) (hn : n ≤ 100) :
    Calls Tryz.prog 133 #[.agg #[.slice x.t.a x.t.n x.t.c, .int .i64 h.n5, .slice x.s.a x.s.n x.s.c], .slice a n c] W fun e w' => ∃ a' c', e = .returned (.slice a' (n + 2 + 1 + x.s.n) c') ∧ HkR w0 B w' (.slice a' (n + 2 + 1 + x.s.n) c') (n + 2 + 1 + x.s.n) (its ++ [lf 0 h.t, lf 0 (shortF 7 h.n5)] ++ [ls 0] ++ h.s.map (lf ((n + 2 : Nat) : Int))) ∧ Kept W w' (.slice a n c) (.slice a' (n + 2 + 1 + x.s.n) c') ∧ B ≤ w'.heap.size := by
  have kb := SBlk.new W #[.slice x.t.a x.t.n x.t.c, .int .i64 h.n5, .slice x.s.a x.s.n x.s.c] 123
  have bb := below_alloc W (.cells #[.slice x.t.a x.t.n x.t.c, .int .i64 h.n5, .slice x.s.a x.s.n x.s.c] 123)
  obtain ⟨Wb, eb⟩ : ∃ Wb, W.alloc (.cells #[.slice x.t.a x.t.n x.t.c, .int .i64 h.n5, .slice x.s.a x.s.n x.s.c] 123) = Wb := ⟨_, rfl⟩
  rw [eb] at kb bb
  have hmb := hm.below bb (Nat.le_refl _) hB
  have hkb := (Kept.refl W (.slice a n c)).below bb
  have hBb : B ≤ Wb.heap.size := Nat.le_trans hB bb.size
  have hsl : x.s.n ≤ 7 := by have := hs.1; have := gd.s; omega
  have hgv : W.heap.size < Wb.heap.size := kb.lt
  have hvb : ∀ q, (Value.slice a n c).ownBlock = some q → q < W.heap.size := fun q e => by obtain ⟨_, _, _, vs, _, h4, _⟩ := hm; exact (h4.lt q e).2
  have sl5 := sh_length h.n5
  have htl := gd.t
  have HAP : Hid (∀ (w1 : World) (a5 : Option Addr) (c5 : Nat), Below Wb.heap.size Wb w1 → w1.ownsRow Wb.heap.size 5 1 (.slice a5 (shortF 7 h.n5).length c5) (shortF 7 h.n5).length ((shortF 7 h.n5).map (Value.int .u8)) →
      Calls Tryz.prog 131 #[.slice a n c, .int .i64 0, .slice (some ⟨w1.heap.size, 0, none⟩) 2 2] (w1.alloc (.cells #[.slice x.t.a x.t.n x.t.c, .slice a5 (shortF 7 h.n5).length c5] 60)) fun e w' => ∃ a' c', e = .returned (.slice a' (n + 2) c') ∧ HkR w0 B w' (.slice a' (n + 2) c') (n + 2) (its ++ [lf 0 h.t, lf 0 (shortF 7 h.n5)]) ∧
        Kept Wb w' (.slice a n c) (.slice a' (n + 2) c') ∧ B ≤ w'.heap.size) := fun w1 a5 c5 hb1 ho => by
    have hB1 : B ≤ w1.heap.size := Nat.le_trans hBb hb1.size
    have m1 := (hmb.below hb1 (Nat.le_refl _) hBb).below (below_alloc w1 (.cells #[.slice x.t.a x.t.n x.t.c, .slice a5 (shortF 7 h.n5).length c5] 60)) (Nat.le_refl _) hB1
    have pr := prow_lit (w0 := w0) (B := B) (w1 := w1) #[.slice x.t.a x.t.n x.t.c, .slice a5 (shortF 7 h.n5).length c5] [h.t, shortF 7 h.n5] rfl hB1 (fun z hz => by simp at hz; rcases hz with rfl | rfl <;> (unfold maxLen; omega)) (by simp) (fun i z u hz hu => by
      match i with
      | 0 => simp at hz hu; subst hz hu; exact .inl ⟨_, _, _, rfl, ht, hnt⟩
      | 1 => simp at hz hu; subst hz hu; exact .inr ⟨ownsRow_base ho hBb, shortF_range 7 _⟩
      | k + 2 => simp at hz)
    refine (addParts_any w0 B hw0 a n c its _ m1 0 ⟨by omega, by omega⟩ _ 2 2 [h.t, shortF 7 h.n5] pr (by simp; omega) (by omega)).mono ?_
    rintro e w' ⟨a', c', he, hm', hk', hb'⟩
    exact ⟨a', c', he, hm', (((Kept.refl Wb (.slice a n c)).below hb1).below (below_alloc w1 _)).trans hk', hb'⟩
  have HSH := hide (fun W' => shortOf_any h.n5 W' gd.n5.1 (by have := gd.n5.2; omega))
  have HKB := hide kb
  have HK0 := hide hkb
  have HPS := hide (fun W' => prow_of hs hns B W')
  have HVB := hide hvb
  have HCE : Hid (∀ W', Below Wb.heap.size Wb W' → W'.cell? ⟨W.heap.size, 0, none⟩ = some (.slice x.t.a x.t.n x.t.c) ∧ W'.cell? ⟨W.heap.size, 1, none⟩ = some (.int .i64 h.n5)) := fun W' hb => ⟨(kb.below hb kb.lt).cell 0, (kb.below hb kb.lt).cell 1⟩
  clear hm hmb hkb kb bb hs hns ht hnt gd hvb
  generalize shortF 7 h.n5 = L5 at HAP HSH sl5
  go_enter Tryz.func133, Tryz.ntmps133
  go_upto_region 1 with (rw [eb])
  try rw [eb]
  clear eb
  go_wp2_with fail
  go_region_held3 (fun W' => W'.cell? ⟨W.heap.size, 0, none⟩ = some (.slice x.t.a x.t.n x.t.c) ∧ W'.cell? ⟨W.heap.size, 1, none⟩ = some (.int .i64 h.n5))
    (first | exact s2 | exact (unhide HCE) _ (by first | assumption | exact (Below.refl Wb.heap.size Wb).drew | exact below_drewN (Below.refl Wb.heap.size Wb) _ | exact Below.alloc (by assumption) (Below.size (by assumption)) _ | exact Below.mono (by assumption) (Nat.le_refl _)))
    (first
      | (go_at_call 132; refine ((unhide HSH) _).mono ?_; rintro e w1 ⟨a5, c5, rfl, o5, b5⟩; have K1 : Below Wb.heap.size Wb w1 := Below.trans (by first | exact (Below.refl Wb.heap.size Wb).drew | exact below_drewN (Below.refl Wb.heap.size Wb) _) b5)
      | (go_at_call 131; refine ((unhide HAP) w1 a5 c5 K1 o5).mono ?_; rintro e w2 ⟨a2, c2, rfl, m2, k2, z2⟩; have q2 : w2.heap[W.heap.size]? = Wb.heap[W.heap.size]? := k2.1 _ hgv (fun e => by have := (unhide HVB) _ e; omega); have s2 : w2.cell? ⟨W.heap.size, 0, none⟩ = some (.slice x.t.a x.t.n x.t.c) ∧ w2.cell? ⟨W.heap.size, 1, none⟩ = some (.int .i64 h.n5) := ⟨SBlk.cell (show SBlk w2 W.heap.size _ _ from q2.trans (unhide HKB)) 0, SBlk.cell (show SBlk w2 W.heap.size _ _ from q2.trans (unhide HKB)) 1⟩))
  all_goals
    have cS : w2.cell? ⟨W.heap.size, 2, none⟩ = some (.slice x.s.a x.s.n x.s.c) := by
      have hc : SBlk w2 W.heap.size _ _ := q2.trans (unhide HKB)
      exact hc.cell 2
    have HC := hide (addList_any w0 B hw0 a2 (n + 2) c2 _ w2 m2 x.s.a x.s.n x.s.c h.s ((unhide HPS) w2) z2 (by omega))
    have HK2 := hide ((unhide HK0).trans k2)
    clear m2 k2 q2 o5 b5 K1
    go_wp2_with fail
    refine (unhide HC).mono ?_
    rintro e w3 ⟨a3, c3, rfl, m3, k3, z3⟩
    have HM3 := hide m3
    have HK3 := hide ((unhide HK2).trans k3)
    clear m3 k3
    go_wp2_with fail
    go_ret
    exact ⟨a3, c3, rfl, unhide HM3, unhide HK3, z3⟩

end Go.Proofs.YtldiilmpmcbjkaaGreatDoor

/- What is proved here: what the model's l5Pack answers for a header without a fault: its bytes. -/
namespace Go.Proofs.YtldiilmpmcbjkaaGreatDoor
open Go.RowKit
set_option linter.unusedVariables false
set_option maxRecDepth 100000

/-- The slices of a header are no bare nils with some room. -/
structure HNil (w : World) (x : HS) : Prop where
  p : x.p.a = none → x.p.c = 0
  t : x.t.a = none → x.t.c = 0
  s : BsNil w x.s.a x.s.n
  r : x.r.a = none → x.r.c = 0
  g : x.g.a = none → x.g.c = 0
  e : x.e.a = none → x.e.c = 0
  k : BsNil w x.k.a x.k.n

theorem HNil.below {w w' : World} {x : HS} (h : HNil w x) {B : Nat} (hb : Below B w w') (hB : w.heap.size ≤ B) : HNil w' x :=
  ⟨h.p, h.t, h.s.below hb hB, h.r, h.g, h.e, h.k.below hb hB⟩

theorem headL_pos (l : Bool) (n : Int) : 0 < (headL l n).length := by
  unfold headL
  split <;> simp

theorem pcL_pos (z : List Int) : 0 < (pcL z).length := by
  unfold pcL pcHd
  rw [List.length_append]
  split
  · rename_i h; omega
  · have := headL_pos false z.length; omega

theorem wrapL_pos (z : List Int) : 0 < (wrapL z).length := by
  unfold wrapL
  rw [List.length_append]
  have := headL_pos true z.length
  omega

/-- Bytes that the call owns, appended to bytes that it owns, in a region that draws its order. -/
theorem step_app {P : Program} {w : World} {ops : Array Oper} {o : Oper} {a : Act} {K : Act → World → Prop} {Q : Exit → Act → World → Prop} {E : Prop} (hgd : o.guard = none) (s x : Operand) (t : TypeId)
    (ho : o.op = .call { callee := .builtin .append, args := #[s, x], argTypes := #[t, t] }) (base : Nat) (i : TypeInfo) (ht : P.underlying t = some (.slice 5)) (hi : P.info? 5 = some i) (hz : i.zero = some (.int .u8 0)) (hsize : i.size = 1) (hby : i.bytes = 1)
    (v : Value) (n : Nat) (L : List Int) (hs : a.eval s = v) (hown : w.ownsRow base 5 1 v n (L.map (Value.int .u8))) (b2 : Nat) (u : Value) (m : Nat) (R : List Int) (hx : a.eval x = u) (hu : w.ownsRow b2 5 1 u m (R.map (Value.int .u8))) (hm : 0 < m) (h63 : n + m ≤ 100000) (hbase : base ≤ w.heap.size)
    (h : ∀ g c w', w'.ownsRow base 5 1 (.slice (some ⟨g, 0, none⟩) (n + m) c) (n + m) ((L ++ R).map (Value.int .u8)) → w.grownBy w' v.ownBlock → K (a.put o.dst (.slice (some ⟨g, 0, none⟩) (n + m) c)) w') :
    if Region.wanted o (yielded ops a.tmps) = true then Oper.wp P o a w K Q else E := by
  obtain ⟨g, c, rfl⟩ := own_some hu hm
  refine step_append_lies (w := w) hgd s x t ho base 5 i (.int .u8 0) 1 1 ht hi hz hsize hby rfl (by decide) v n _ hs hown ⟨g, 0, none⟩ m c (R.map (Value.int .u8)) hx (by have := hu.1; simpa using this) ?_ ?_ hm (by unfold maxLen; omega) (by omega) hbase _ rfl ?_
  · intro j q hj
    rw [add_none, Nat.zero_add, hu.cellAt j (by have := (List.getElem?_eq_some_iff.1 hj).1; have := hu.1; omega)]
    exact hj
  · intro q hq
    obtain ⟨z, _, rfl⟩ := List.mem_map.1 hq
    rfl
  · intro g' c' w' h1 h2 _ _
    exact h g' c' w' (by rw [List.map_append]; exact h1) h2

end Go.Proofs.YtldiilmpmcbjkaaGreatDoor

/- What is proved here: what the program's items answers: the items of a header, in new memory. -/
namespace Go.Proofs.YtldiilmpmcbjkaaGreatDoor
open Go.RowKit
set_option linter.unusedVariables false
set_option maxRecDepth 100000

theorem one_item (w0 : World) : HkR w0 w0.heap.size (w0.alloc (.cells #[.bool true, .int .i64 (-1), .slice none 0 0] 160)) (.slice (some ⟨w0.heap.size, 0, none⟩) 1 1) 1 [ls (-1)] := by
  refine ⟨rfl, fun it hit => ?_, below_alloc w0 _, [.slice none 0 0], rfl, World.ownsRow_lit w0 #[.bool true, .int .i64 (-1), .slice none 0 0] 1 (Nat.le_refl _) (by unfold maxLen; omega) rfl, fun i it u hi hu => ?_⟩
  · rw [List.mem_singleton.1 hit]
    exact ⟨by show (-9223372036854775808 : Int) ≤ -1; omega, by show (-1 : Int) ≤ 9223372036854775807; omega, Nat.zero_le _⟩
  · match i with
    | 0 => simp at hi hu; subst hi hu; exact Src.nil _ _ _
    | k + 1 => simp at hi

set_option maxRecDepth 100000 in
set_option maxHeartbeats 8000000 in
theorem items_any (x : HS) (h : Hd) (gd : HGood h) (w : World) (o : HOk w x h) (nn : HNil w x) :
    Calls Tryz.prog 119 #[.agg (hvals x h)] w fun e w' => ∃ a c, e = .returned (.slice a (hIts h).length c) ∧ ItRowN w' a (hIts h).length (hIts h) ∧ Below w.heap.size w w' := by
  have kb := SBlk.new w (hvals x h) 125
  have bb := below_alloc w (.cells (hvals x h) 125)
  obtain ⟨W0, eb⟩ : ∃ W0, w.alloc (.cells (hvals x h) 125) = W0 := ⟨_, rfl⟩
  rw [eb] at kb bb
  have hgw : w.heap.size < W0.heap.size := kb.lt
  have o0 := o.below bb (Nat.le_refl _)
  have n0 := nn.below bb (Nat.le_refl _)
  have hsn : x.s.n = h.s.length := o.s.1.symm
  have hkn : x.k.n = h.k.length := o.k.1.symm
  have m1 := one_item W0
  have b01 := below_alloc W0 (.cells #[.bool true, .int .i64 (-1), .slice none 0 0] 160)
  obtain ⟨W1, e1⟩ : ∃ W1, W0.alloc (.cells #[.bool true, .int .i64 (-1), .slice none 0 0] 160) = W1 := ⟨_, rfl⟩
  rw [e1] at m1 b01
  have HCB := hide (fun (W' : World) (hb : Below W0.heap.size W0 W') => hcells (kb.below hb kb.lt))
  have gs := gd.s
  have gk := gd.k
  have pl := gd.p
  have rl := gd.r
  have gl := gd.g
  have el := gd.e
  have t1 := sh_length h.n1
  have t2 := sh_length h.n2
  have t3 := sh_length h.n3
  have hB1 : W0.heap.size ≤ W1.heap.size := b01.size
  have HAP : Hid (∀ (w1 : World) (a1 : Option Addr) (c1 : Nat) (a2 : Option Addr) (c2 : Nat) (a3 : Option Addr) (c3 : Nat), Below W1.heap.size W1 w1 → w1.ownsRow W1.heap.size 5 1 (.slice a1 (shortF 7 h.n1).length c1) (shortF 7 h.n1).length ((shortF 7 h.n1).map (Value.int .u8)) → w1.ownsRow W1.heap.size 5 1 (.slice a2 (shortF 7 h.n2).length c2) (shortF 7 h.n2).length ((shortF 7 h.n2).map (Value.int .u8)) → w1.ownsRow W1.heap.size 5 1 (.slice a3 (shortF 7 h.n3).length c3) (shortF 7 h.n3).length ((shortF 7 h.n3).map (Value.int .u8)) →
      Calls Tryz.prog 131 #[.slice (some ⟨W0.heap.size, 0, none⟩) 1 1, .int .i64 0, .slice (some ⟨w1.heap.size, 0, none⟩) 4 4] (w1.alloc (.cells #[.slice x.p.a x.p.n x.p.c, .slice a1 (shortF 7 h.n1).length c1, .slice a2 (shortF 7 h.n2).length c2, .slice a3 (shortF 7 h.n3).length c3] 60)) fun e w' => ∃ a' c', e = .returned (.slice a' 5 c') ∧ HkR W0 W0.heap.size w' (.slice a' 5 c') 5 ([ls (-1)] ++ [lf 0 h.p, lf 0 (shortF 7 h.n1), lf 0 (shortF 7 h.n2), lf 0 (shortF 7 h.n3)]) ∧ W0.heap.size ≤ w'.heap.size) := fun w1 a1 c1 a2 c2 a3 c3 hb1 r1 r2 r3 => by
    have hBw : W0.heap.size ≤ w1.heap.size := Nat.le_trans hB1 hb1.size
    have m2 := (m1.below hb1 (Nat.le_refl _) hB1).below (below_alloc w1 (.cells #[.slice x.p.a x.p.n x.p.c, .slice a1 (shortF 7 h.n1).length c1, .slice a2 (shortF 7 h.n2).length c2, .slice a3 (shortF 7 h.n3).length c3] 60)) (Nat.le_refl _) hBw
    have pr := prow_lit (w0 := W0) (B := W0.heap.size) (w1 := w1) #[.slice x.p.a x.p.n x.p.c, .slice a1 (shortF 7 h.n1).length c1, .slice a2 (shortF 7 h.n2).length c2, .slice a3 (shortF 7 h.n3).length c3] [h.p, shortF 7 h.n1, shortF 7 h.n2, shortF 7 h.n3] rfl hBw (fun z hz => by simp at hz; rcases hz with rfl | rfl | rfl | rfl <;> (unfold maxLen; omega)) (by simp) (fun i z u hz hu => by
      match i with
      | 0 => simp at hz hu; subst hz hu; exact .inl ⟨_, _, _, rfl, o0.p, n0.p⟩
      | 1 => simp at hz hu; subst hz hu; exact .inr ⟨ownsRow_base r1 hB1, shortF_range 7 _⟩
      | 2 => simp at hz hu; subst hz hu; exact .inr ⟨ownsRow_base r2 hB1, shortF_range 7 _⟩
      | 3 => simp at hz hu; subst hz hu; exact .inr ⟨ownsRow_base r3 hB1, shortF_range 7 _⟩
      | k + 4 => simp at hz)
    refine (addParts_any W0 W0.heap.size (Nat.le_refl _) _ 1 1 _ _ m2 0 ⟨by omega, by omega⟩ _ 4 4 _ pr (by simp; omega) (by omega)).mono ?_
    rintro e w' ⟨a', c', he, hm', hk', hb'⟩
    exact ⟨a', c', he, hm', hb'⟩
  have HS1 := hide (fun W' => shortOf_any h.n1 W' gd.n1.1 gd.n1.2)
  have HS2 := hide (fun W' => shortOf_any h.n2 W' gd.n2.1 gd.n2.2)
  have HS3 := hide (fun W' => shortOf_any h.n3 W' gd.n3.1 (by have := gd.n3.2; omega))
  have HAV : Hid (∀ (W' : World) (a : Option Addr) (c : Nat) (its : List It), HkR W0 W0.heap.size W' (.slice a 5 c) 5 its → W0.heap.size ≤ W'.heap.size → Calls Tryz.prog 133 #[.agg #[.slice x.t.a x.t.n x.t.c, .int .i64 h.n5, .slice x.s.a x.s.n x.s.c], .slice a 5 c] W' fun e w' => ∃ a' c', e = .returned (.slice a' (8 + h.s.length) c') ∧ HkR W0 W0.heap.size w' (.slice a' (8 + h.s.length) c') (8 + h.s.length) (its ++ [lf 0 h.t, lf 0 (shortF 7 h.n5)] ++ [ls 0] ++ h.s.map (lf 7)) ∧ W0.heap.size ≤ w'.heap.size) := fun W' a c its hm hb => by
    refine (addVotes_any W0 W0.heap.size (Nat.le_refl _) x h gd o0.t n0.t o0.s n0.s a 5 c its W' hm hb (by omega)).mono ?_
    rintro e w' ⟨a', c', he, hm', _, hb'⟩
    rw [hsn, show 5 + 2 + 1 + h.s.length = 8 + h.s.length by omega] at he hm'
    exact ⟨a', c', he, hm', hb'⟩
  have HAQ : Hid (∀ (W' : World) (a : Option Addr) (c : Nat) (its : List It), HkR W0 W0.heap.size W' (.slice a (8 + h.s.length) c) (8 + h.s.length) its → W0.heap.size ≤ W'.heap.size → Calls Tryz.prog 131 #[.slice a (8 + h.s.length) c, .int .i64 0, .slice (some ⟨W'.heap.size, 0, none⟩) 3 3] (W'.alloc (.cells #[.slice x.r.a x.r.n x.r.c, .slice x.g.a x.g.n x.g.c, .slice x.e.a x.e.n x.e.c] 60)) fun e w' => ∃ a' c', e = .returned (.slice a' (11 + h.s.length) c') ∧ HkR W0 W0.heap.size w' (.slice a' (11 + h.s.length) c') (11 + h.s.length) (its ++ [lf 0 h.r, lf 0 h.g, lf 0 h.e]) ∧ W0.heap.size ≤ w'.heap.size) := fun W' a c its hm hb => by
    have m2 := hm.below (below_alloc W' (.cells #[.slice x.r.a x.r.n x.r.c, .slice x.g.a x.g.n x.g.c, .slice x.e.a x.e.n x.e.c] 60)) (Nat.le_refl _) hb
    have pr := prow_lit (w0 := W0) (B := W0.heap.size) (w1 := W') #[.slice x.r.a x.r.n x.r.c, .slice x.g.a x.g.n x.g.c, .slice x.e.a x.e.n x.e.c] [h.r, h.g, h.e] rfl hb (fun z hz => by simp at hz; rcases hz with rfl | rfl | rfl <;> (unfold maxLen; omega)) (by simp) (fun i z u hz hu => by
      match i with
      | 0 => simp at hz hu; subst hz hu; exact .inl ⟨_, _, _, rfl, o0.r, n0.r⟩
      | 1 => simp at hz hu; subst hz hu; exact .inl ⟨_, _, _, rfl, o0.g, n0.g⟩
      | 2 => simp at hz hu; subst hz hu; exact .inl ⟨_, _, _, rfl, o0.e, n0.e⟩
      | k + 3 => simp at hz)
    refine (addParts_any W0 W0.heap.size (Nat.le_refl _) a (8 + h.s.length) c its _ m2 0 ⟨by omega, by omega⟩ _ 3 3 _ pr (by simp; omega) (by omega)).mono ?_
    rintro e w' ⟨a', c', he, hm', hk', hb'⟩
    exact ⟨a', c', by rw [he, show 11 + h.s.length = 8 + h.s.length + 3 by omega], by rw [show 11 + h.s.length = 8 + h.s.length + 3 by omega]; exact hm', hb'⟩
  have HAL : Hid (∀ (W' : World) (a : Option Addr) (c : Nat) (its : List It), HkR W0 W0.heap.size W' (.slice a (11 + h.s.length) c) (11 + h.s.length) its → W0.heap.size ≤ W'.heap.size → Calls Tryz.prog 134 #[.slice a (11 + h.s.length) c, .slice x.k.a x.k.n x.k.c] W' fun e w' => ∃ a' c', e = .returned (.slice a' (12 + h.s.length + h.k.length) c') ∧ HkR W0 W0.heap.size w' (.slice a' (12 + h.s.length + h.k.length) c') (12 + h.s.length + h.k.length) (its ++ [ls 0] ++ h.k.map (lf ((11 + h.s.length : Nat) : Int)))) := fun W' a c its hm hb => by
    refine (addList_any W0 W0.heap.size (Nat.le_refl _) a (11 + h.s.length) c its W' hm x.k.a x.k.n x.k.c h.k (prow_of o0.k n0.k _ _) hb (by omega)).mono ?_
    rintro e w' ⟨a', c', he, hm', _, hb'⟩
    rw [hkn, show 11 + h.s.length + 1 + h.k.length = 12 + h.s.length + h.k.length by omega] at he hm'
    exact ⟨a', c', he, hm'⟩
  have HLN := hide (hIts_len h)
  have HITS : Hid ((([ls (-1)] ++ [lf 0 h.p, lf 0 (shortF 7 h.n1), lf 0 (shortF 7 h.n2), lf 0 (shortF 7 h.n3)] ++ [lf 0 h.t, lf 0 (shortF 7 h.n5)] ++ [ls 0] ++ h.s.map (lf 7)) ++ [lf 0 h.r, lf 0 h.g, lf 0 h.e] ++ [ls 0] ++ h.k.map (lf ((11 + h.s.length : Nat) : Int))) = hIts h) := by
    show _ = _
    unfold hIts hA hC
    simp only [List.cons_append, List.nil_append, List.append_assoc]
  have HB0 := hide bb
  have HB01 := hide b01
  clear o nn o0 n0 gd m1 kb bb b01 hsn hkn
  unfold hvals at eb ⊢
  go_enter Tryz.func119, Tryz.ntmps119
  go_upto_region 1 with (rw [eb])
  try rw [eb]
  clear eb
  go_upto_region 2 with (rw [e1])
  try rw [e1]
  clear e1
  have HCE : Hid (∀ W', Below W0.heap.size W0 W' → W'.cell? ⟨w.heap.size, 0, none⟩ = some (.slice x.p.a x.p.n x.p.c) ∧ W'.cell? ⟨w.heap.size, 1, none⟩ = some (.int .i64 h.n1) ∧ W'.cell? ⟨w.heap.size, 2, none⟩ = some (.int .i64 h.n2) ∧ W'.cell? ⟨w.heap.size, 3, none⟩ = some (.int .i64 h.n3)) := fun W' hb => by
    obtain ⟨c0, c1, c2, c3, _⟩ := (unhide HCB) W' hb
    exact ⟨c0, c1, c2, c3⟩
  go_region_held3 (fun W' => W'.cell? ⟨w.heap.size, 0, none⟩ = some (.slice x.p.a x.p.n x.p.c) ∧ W'.cell? ⟨w.heap.size, 1, none⟩ = some (.int .i64 h.n1) ∧ W'.cell? ⟨w.heap.size, 2, none⟩ = some (.int .i64 h.n2) ∧ W'.cell? ⟨w.heap.size, 3, none⟩ = some (.int .i64 h.n3))
    (first | exact s9 | exact (unhide HCE) _ (Below.trans (unhide HB01) (Below.mono (by first | assumption | exact (Below.refl W1.heap.size W1).drew | exact below_drewN (Below.refl W1.heap.size W1) _ | exact Below.alloc (by assumption) (Below.size (by assumption)) _) hB1)))
    (first
      | (go_at_call_of 132 (h.n1); refine ((unhide HS1) _).mono ?_; rintro e v1 ⟨a1, c1, rfl, r1, b1⟩; have K1 : Below W1.heap.size W1 v1 := Below.trans (by first | exact (Below.refl W1.heap.size W1).drew | exact below_drewN (Below.refl W1.heap.size W1) _) b1; clear b1)
      | (go_at_call_of 132 (h.n2); refine ((unhide HS2) _).mono ?_; rintro e v2 ⟨a2, c2, rfl, r2, b2⟩; have r1 := own_below r1 b2 (Nat.le_refl _); have r2 := ownsRow_base r2 K1.size; have K2 : Below W1.heap.size W1 v2 := K1.trans (b2.mono K1.size); clear b2 K1)
      | (go_at_call_of 132 (h.n3); refine ((unhide HS3) _).mono ?_; rintro e v3 ⟨a3, c3, rfl, r3, b3⟩; have r1 := own_below r1 b3 (Nat.le_refl _); have r2 := own_below r2 b3 (Nat.le_refl _); have r3 := ownsRow_base r3 K2.size; have K3 : Below W1.heap.size W1 v3 := K2.trans (b3.mono K2.size); clear b3 K2)
      | (go_at_call 131; refine ((unhide HAP) v3 a1 c1 a2 c2 a3 c3 K3 r1 r2 r3).mono ?_; rintro e w2 ⟨a9, c9, rfl, m9, z9⟩; have s9 := (unhide HCE) w2 m9.2.2.1))
  all_goals
    obtain ⟨_, _, _, _, d4, d5, d6, _, _, _, _⟩ := (unhide HCB) w2 m9.2.2.1
    have HC := hide ((unhide HAV) w2 a9 c9 _ m9 z9)
    clear m9 z9 s9 r1 r2 r3 K3
    go_wp2_with fail
    refine (unhide HC).mono ?_
    rintro e w3 ⟨a3', c3', rfl, m3, z3⟩
    obtain ⟨_, _, _, _, _, _, _, d7, d8, d9, _⟩ := (unhide HCB) w3 m3.2.2.1
    have HC := hide ((unhide HAQ) w3 a3' c3' _ m3 z3)
    clear m3 z3 d4 d5 d6
    go_wp2_with fail
    refine (unhide HC).mono ?_
    rintro e w4 ⟨a4, c4, rfl, m4, z4⟩
    obtain ⟨_, _, _, _, _, _, _, _, _, _, d10⟩ := (unhide HCB) w4 m4.2.2.1
    have HC := hide ((unhide HAL) w4 a4 c4 _ m4 z4)
    clear m4 z4 d7 d8 d9
    go_wp2_with fail
    refine (unhide HC).mono ?_
    rintro e w5 ⟨a5, c5, rfl, m5⟩
    rw [unhide HITS] at m5
    have HM5 := hide m5
    clear m5
    go_wp2_with fail
    go_ret
    refine ⟨a5, c5, by rw [unhide HLN]; rfl, ?_, (unhide HB0).trans ((unhide HM5).2.2.1.mono (unhide HB0).size)⟩
    rw [unhide HLN]
    exact (unhide HM5).row (Nat.le_refl _)

end Go.Proofs.YtldiilmpmcbjkaaGreatDoor

/- What is proved here: the items of a header, encoded, are its bytes; no program is named. -/
namespace Go.Proofs.YtldiilmpmcbjkaaGreatDoor
open Go.RowKit
set_option linter.unusedVariables false
set_option maxRecDepth 100000

theorem kids_block {its : List It} {x : Int} : ∀ (n k : Nat), k + n ≤ its.length → (∀ i, i < n → pOf its (k + i) = x) → kidsFrom its x k = List.range' k n ++ kidsFrom its x (k + n)
  | 0, k, _, _ => by simp
  | n + 1, k, hk, h => by
    have h0 : pOf its k = x := by simpa using h 0 (by omega)
    rw [kidsFrom_yes (by omega) h0, kids_block n (k + 1) (by omega) (fun i hi => by have := h (i + 1) (by omega); rwa [show k + (i + 1) = k + 1 + i by omega] at this), List.range'_succ, List.cons_append, show k + 1 + n = k + (n + 1) by omega]

/-- Where the parents lie. -/
theorem pOf_cls {h : Hd} (gd : HGood h) (j : Nat) (hj : j < 12 + h.s.length + h.k.length) :
    (j = 0 → pOf (hIts h) j = -1) ∧ (1 ≤ j → j ≤ 7 → pOf (hIts h) j = 0) ∧ (8 ≤ j → j < 8 + h.s.length → pOf (hIts h) j = 7) ∧ (8 + h.s.length ≤ j → j ≤ 11 + h.s.length → pOf (hIts h) j = 0) ∧ (12 + h.s.length ≤ j → pOf (hIts h) j = ((11 + h.s.length : Nat) : Int)) := by
  obtain ⟨it, hit⟩ := it_at h j hj
  rw [pOf_some hit]
  rcases cls gd j it hit with ⟨rfl, rfl⟩ | ⟨h1, h2, z, rfl, _⟩ | ⟨rfl, rfl⟩ | ⟨h1, h2, z, rfl, _⟩ | ⟨h1, h2, z, rfl, _⟩ | ⟨rfl, rfl⟩ | ⟨h1, h2, z, rfl, _⟩
  all_goals refine ⟨fun _ => ?_, fun _ _ => ?_, fun _ _ => ?_, fun _ _ => ?_, fun _ => ?_⟩ <;> first | rfl | (exfalso; omega)

theorem no_kids {h : Hd} (gd : HGood h) (q : Nat) (h0 : q ≠ 0) (h7 : q ≠ 7) (h11 : q ≠ 11 + h.s.length) : kidsFrom (hIts h) (q : Int) 0 = [] := by
  refine kidsFrom_nil fun j _ hj => ?_
  rw [hIts_len] at hj
  obtain ⟨p0, p1, p2, p3, p4⟩ := pOf_cls gd j hj
  rcases Nat.eq_zero_or_pos j with e | e
  · rw [p0 e]; omega
  · rcases Nat.lt_or_ge j 8 with a | a
    · rw [p1 (by omega) (by omega)]; omega
    · rcases Nat.lt_or_ge j (8 + h.s.length) with b | b
      · rw [p2 a b]; omega
      · rcases Nat.lt_or_ge j (12 + h.s.length) with c | c
        · rw [p3 b (by omega)]; omega
        · rw [p4 c]; omega

theorem enc_leaf {h : Hd} (gd : HGood h) {j : Nat} {p : Int} {z : List Int} (h0 : j ≠ 0) (h7 : j ≠ 7) (h11 : j ≠ 11 + h.s.length) (hit : (hIts h)[j]? = some (lf p z)) : enc hdS (hIts h) j = pcL z := by
  have N := noFault_of (hIts_flt gd)
  have hc : cont hdS (hIts h) j (lf p z) = z := by unfold cont; rw [no_kids gd j h0 h7 h11]; simp [lf]
  rw [enc_eq hdS N.up hit, hc]
  unfold pcL pcHd hdS lf
  by_cases t : z.length = 1 ∧ z.getD 0 0 < 128
  · rw [if_pos t, if_pos ⟨rfl, t⟩]
  · rw [if_neg t, if_neg (fun hh => t hh.2)]

theorem enc_block {h : Hd} (gd : HGood h) (p : Int) : ∀ (zs : List (List Int)) (k : Nat), (∀ i (hi : i < zs.length), (hIts h)[k + i]? = some (lf p zs[i]) ∧ k + i ≠ 0 ∧ k + i ≠ 7 ∧ k + i ≠ 11 + h.s.length) → (List.range' k zs.length).flatMap (enc hdS (hIts h)) = pcsL zs
  | [], k, _ => by simp [pcsL]
  | z :: zs, k, hz => by
    obtain ⟨a1, a2, a3, a4⟩ := hz 0 (by simp)
    have ih := enc_block gd p zs (k + 1) (fun i hi => by
      have := hz (i + 1) (by simpa using hi)
      rw [show k + (i + 1) = k + 1 + i by omega] at this
      simpa using this)
    rw [List.length_cons, List.range'_succ, List.flatMap_cons, ih]
    rw [enc_leaf gd (z := z) (p := p) (by simpa using a2) (by simpa using a3) (by simpa using a4) (by simpa using a1)]
    rfl

theorem enc_list7 {h : Hd} (gd : HGood h) : enc hdS (hIts h) 7 = listL h.s := by
  have N := noFault_of (hIts_flt gd)
  have hit : (hIts h)[7]? = some (ls 0) := at_A h 7 (by omega)
  have hlen := hIts_len h
  have hk : kidsFrom (hIts h) ((7 : Nat) : Int) 0 = List.range' 8 h.s.length := by
    rw [kidsFrom_skip 8 0 (by omega) (by omega) (fun j _ hj => by
      obtain ⟨p0, p1, _⟩ := pOf_cls gd j (by omega)
      rcases Nat.eq_zero_or_pos j with e | e
      · rw [p0 e]; omega
      · rw [p1 (by omega) (by omega)]; omega)]
    rw [kids_block (x := ((7 : Nat) : Int)) h.s.length 8 (by omega) (fun i hi => (pOf_cls gd (8 + i) (by omega)).2.2.1 (by omega) (by omega))]
    rw [kidsFrom_nil (fun j hj1 hj2 => by
      rw [hlen] at hj2
      obtain ⟨_, _, _, p3, p4⟩ := pOf_cls gd j hj2
      rcases Nat.lt_or_ge j (12 + h.s.length) with c | c
      · rw [p3 hj1 (by omega)]; omega
      · rw [p4 c]; omega)]
    simp
  have hc : cont hdS (hIts h) 7 (ls 0) = pcsL h.s := by
    unfold cont
    rw [hk, enc_block gd 7 h.s 8 (fun i hi => ⟨at_S h i hi, by omega, by omega, by omega⟩)]
    rfl
  rw [enc_eq hdS N.up hit, hc]
  rfl

theorem enc_list11 {h : Hd} (gd : HGood h) : enc hdS (hIts h) (11 + h.s.length) = listL h.k := by
  have N := noFault_of (hIts_flt gd)
  have hit : (hIts h)[11 + h.s.length]? = some (ls 0) := by have := at_C h 3 (by omega); rw [show 8 + h.s.length + 3 = 11 + h.s.length by omega] at this; exact this
  have hlen := hIts_len h
  have hk : kidsFrom (hIts h) ((11 + h.s.length : Nat) : Int) 0 = List.range' (12 + h.s.length) h.k.length := by
    rw [kidsFrom_skip (12 + h.s.length) 0 (by omega) (by omega) (fun j _ hj => by
      obtain ⟨p0, p1, p2, p3, _⟩ := pOf_cls gd j (by omega)
      rcases Nat.eq_zero_or_pos j with e | e
      · rw [p0 e]; omega
      · rcases Nat.lt_or_ge j 8 with a | a
        · rw [p1 (by omega) (by omega)]; omega
        · rcases Nat.lt_or_ge j (8 + h.s.length) with b | b
          · rw [p2 a b]; omega
          · rw [p3 b (by omega)]; omega)]
    rw [kids_block h.k.length (12 + h.s.length) (by omega) (fun i hi => (pOf_cls gd (12 + h.s.length + i) (by omega)).2.2.2.2 (by omega))]
    rw [kidsFrom_end _ _ _ (by omega)]
    simp
  have hc : cont hdS (hIts h) (11 + h.s.length) (ls 0) = pcsL h.k := by
    unfold cont
    rw [hk, enc_block gd _ h.k (12 + h.s.length) (fun i hi => ⟨at_K h i hi, by omega, by omega, by omega⟩)]
    rfl
  rw [enc_eq hdS N.up hit, hc]
  rfl

theorem enc_header {h : Hd} (gd : HGood h) : enc hdS (hIts h) 0 = packL h := by
  have N := noFault_of (hIts_flt gd)
  have hit : (hIts h)[0]? = some (ls (-1)) := at_A h 0 (by omega)
  have hlen := hIts_len h
  have hk : kidsFrom (hIts h) ((0 : Nat) : Int) 0 = List.range' 1 7 ++ List.range' (8 + h.s.length) 4 := by
    rw [kidsFrom_skip 1 0 (by omega) (by omega) (fun j _ hj => by rw [(pOf_cls gd j (by omega)).1 (by omega)]; omega)]
    rw [kids_block (x := ((0 : Nat) : Int)) 7 1 (by omega) (fun i hi => (pOf_cls gd (1 + i) (by omega)).2.1 (by omega) (by omega))]
    rw [kidsFrom_skip (8 + h.s.length) (1 + 7) (by omega) (by omega) (fun j h1 h2 => by rw [(pOf_cls gd j (by omega)).2.2.1 (by omega) h2]; omega)]
    rw [kids_block (x := ((0 : Nat) : Int)) 4 (8 + h.s.length) (by omega) (fun i hi => (pOf_cls gd (8 + h.s.length + i) (by omega)).2.2.2.1 (by omega) (by omega))]
    rw [kidsFrom_nil (fun j hj1 hj2 => by
      rw [hlen] at hj2
      rw [(pOf_cls gd j hj2).2.2.2.2 (by omega)]; omega)]
    simp
  have e1 := enc_leaf gd (j := 1) (p := 0) (z := h.p) (by omega) (by omega) (by omega) (at_A h 1 (by omega))
  have e2 := enc_leaf gd (j := 2) (p := 0) (z := shortF 7 h.n1) (by omega) (by omega) (by omega) (at_A h 2 (by omega))
  have e3 := enc_leaf gd (j := 3) (p := 0) (z := shortF 7 h.n2) (by omega) (by omega) (by omega) (at_A h 3 (by omega))
  have e4 := enc_leaf gd (j := 4) (p := 0) (z := shortF 7 h.n3) (by omega) (by omega) (by omega) (at_A h 4 (by omega))
  have e5 := enc_leaf gd (j := 5) (p := 0) (z := h.t) (by omega) (by omega) (by omega) (at_A h 5 (by omega))
  have e6 := enc_leaf gd (j := 6) (p := 0) (z := shortF 7 h.n5) (by omega) (by omega) (by omega) (at_A h 6 (by omega))
  have e7 := enc_list7 gd
  have e8 := enc_leaf gd (j := 8 + h.s.length) (p := 0) (z := h.r) (by omega) (by omega) (by omega) (by have := at_C h 0 (by omega); exact this)
  have e9 := enc_leaf gd (j := 8 + h.s.length + 1) (p := 0) (z := h.g) (by omega) (by omega) (by omega) (at_C h 1 (by omega))
  have e10 := enc_leaf gd (j := 8 + h.s.length + 1 + 1) (p := 0) (z := h.e) (by omega) (by omega) (by omega) (at_C h 2 (by omega))
  have e11 := enc_list11 gd
  rw [show 11 + h.s.length = 8 + h.s.length + 1 + 1 + 1 by omega] at e11
  have hc : cont hdS (hIts h) 0 (ls (-1)) = bd6 h := by
    unfold cont
    rw [hk]
    have r1 : List.range' 1 7 = [1, 2, 3, 4, 5, 6, 7] := rfl
    have r2 : List.range' (8 + h.s.length) 4 = [8 + h.s.length, 8 + h.s.length + 1, 8 + h.s.length + 1 + 1, 8 + h.s.length + 1 + 1 + 1] := rfl
    rw [r1, r2]
    simp only [List.cons_append, List.nil_append, List.flatMap_cons, List.flatMap_nil, e1, e2, e3, e4, e5, e6, e7, e8, e9, e10, e11, ls]
    unfold bd6 bd5 bd4 bd3 bd2 bd1
    simp only [List.append_assoc, List.append_nil]
  rw [enc_eq hdS N.up hit, hc]
  rfl

/-- What EncodeItems answers for them. -/
theorem en_header {h : Hd} (gd : HGood h) : enCode (hIts h) = 0 ∧ enBytes (hIts h) = packL h := by
  have hl : (packL h).length ≤ 1200 := by
    have h1 := wrapL_length (bd6 h)
    have h2 := (bd_length gd).2.2.2.2.2
    unfold packL
    omega
  refine ⟨?_, ?_⟩
  · unfold enCode; rw [if_pos (hIts_flt gd), enc_header gd, if_neg (by omega)]
  · unfold enBytes; rw [enc_header gd, if_pos ⟨hIts_flt gd, hl⟩]

end Go.Proofs.YtldiilmpmcbjkaaGreatDoor

/- What is proved here: what the program's HeadBytes answers: the code and the head of an item, in new memory. -/
namespace Go.Proofs.YtldiilmpmcbjkaaGreatDoor
open Go.RowKit
set_option linter.unusedVariables false
set_option maxRecDepth 100000

theorem headStart_any (l : Bool) (w : World) : Calls Tryz.prog 156 #[.bool l] w fun e w' => e = .returned (.int .i64 (headB l)) ∧ w' = w := by
  cases l
  all_goals
    go_enter Tryz.func156, Tryz.ntmps156
    go_wp2
    go_ret
    exact ⟨rfl, rfl⟩

set_option maxHeartbeats 1000000 in
theorem implHead_out (l : Bool) (n : Int) (w : World) (h : n < 0 ∨ 1200 < n) :
    Calls Tryz.prog 153 #[.bool l, .int .i64 n] w fun e w' => e = .returned (.agg #[.int .i64 3, .slice none 0 0]) ∧ Below w.heap.size w w' := by
  by_cases h' : n < 0
  · have hd : decide (n < 0) = true := decide_eq_true h'
    go_enter Tryz.func153, Tryz.ntmps153
    go_wp2_with fail
    exact bodyPost_ret (v := .agg #[.int .i64 3, .slice none 0 0]) (by simp [results, Tryz.results153, go_sem]) rfl ⟨rfl, (Below.refl _ _).alloc (Nat.le_refl _) _⟩
  · have hd : decide (n < 0) = false := decide_eq_false h'
    have h2 : decide (1200 < n) = true := decide_eq_true (by omega)
    go_enter Tryz.func153, Tryz.ntmps153
    go_wp2_with fail
    exact bodyPost_ret (v := .agg #[.int .i64 3, .slice none 0 0]) (by simp [results, Tryz.results153, go_sem]) rfl ⟨rfl, (Below.refl _ _).alloc (Nat.le_refl _) _⟩

set_option maxHeartbeats 1000000 in
theorem implHead_small (l : Bool) (n : Int) (w : World) (h0 : 0 ≤ n) (h1 : n ≤ 55) :
    Calls Tryz.prog 153 #[.bool l, .int .i64 n] w fun e w' => ∃ a cap, e = .returned (.agg #[.int .i64 0, .slice a (headL l n).length cap]) ∧
      w'.ownsRow w.heap.size 5 1 (.slice a (headL l n).length cap) (headL l n).length ((headL l n).map (Value.int .u8)) ∧ Below w.heap.size w w' := by
  have e : headL l n = [headB l + n] := if_pos h1
  rw [e]
  have hb := headB_in l
  have hd : decide (n < 0) = false := decide_eq_false (by omega)
  have h2 : decide (1200 < n) = false := decide_eq_false (by omega)
  have h3 : decide (n ≤ 55) = true := decide_eq_true h1
  have HS := hide (fun W => headStart_any l W)
  generalize headB l = bb at HS hb
  go_enter Tryz.func153, Tryz.ntmps153
  go_wp2_with fail
  refine ((unhide HS) _).mono ?_
  rintro e w1 ⟨rfl, rfl⟩
  go_wp2_with fail
  refine bodyPost_ret (v := .agg #[.int .i64 0, .slice (some ⟨w.heap.size + 1, 0, none⟩) 1 1]) (by simp [results, Tryz.results153, go_sem]) rfl ⟨some ⟨w.heap.size + 1, 0, none⟩, 1, rfl, ?_, ?_⟩
  · have o := World.ownsRow_lit (base := w.heap.size) (e := 5) (size := 1) (w.alloc (.cells #[.int .i64 0, .slice (some ⟨w.heap.size + 1, 0, none⟩) 1 1] 111)) #[.int .u8 (bb + n)] 1 (by simp) (by unfold maxLen; omega) rfl
    simpa using o
  · exact ((Below.refl _ _).alloc (Nat.le_refl _) _).alloc (by simp) _

set_option maxHeartbeats 1000000 in
theorem implHead_long (l : Bool) (n : Int) (w : World) (h0 : 55 < n) (h1 : n ≤ 1200) :
    Calls Tryz.prog 153 #[.bool l, .int .i64 n] w fun e w' => ∃ a cap, e = .returned (.agg #[.int .i64 0, .slice a (headL l n).length cap]) ∧
      w'.ownsRow w.heap.size 5 1 (.slice a (headL l n).length cap) (headL l n).length ((headL l n).map (Value.int .u8)) ∧ Below w.heap.size w w' := by
  obtain ⟨i0, hi, hz0, hz1, hz2⟩ := info_parts info5
  have e : headL l n = (headB l + 55 + (shortF 7 n).length) :: shortF 7 n := if_neg (by omega)
  rw [e]
  have hb := headB_in l
  have hd : decide (n < 0) = false := decide_eq_false (by omega)
  have h2 : decide (1200 < n) = false := decide_eq_false (by omega)
  have h3 : decide (n ≤ 55) = false := decide_eq_false (by omega)
  have HS := hide (fun W => headStart_any l W)
  have HH := hide (fun W => implShort_pos n W (by omega) (by omega))
  have hs3 := shortF_small n (by omega) (by omega)
  have hs0 := shortF_pos n (by omega)
  clear e
  generalize headB l = bb at HS hb
  generalize shortF 7 n = L at HH hs3 hs0
  go_enter Tryz.func153, Tryz.ntmps153
  go_wp2_with fail
  refine ((unhide HS) _).mono ?_
  rintro e w1 ⟨rfl, rfl⟩
  go_wp2_with fail
  refine ((unhide HH) _).mono ?_
  rintro e w2 ⟨a, cap, rfl, hown, hbel⟩
  obtain ⟨g, cap', hv⟩ := own_some hown hs0
  simp only [Value.slice.injEq] at hv
  obtain ⟨rfl, _, rfl⟩ := hv
  have hsz : (w.alloc (.cells #[.int .i64 0, .slice none 0 0] 111)).heap.size = w.heap.size + 1 := by simp
  rw [hsz] at hown hbel
  have hz : w.heap.size + 1 ≤ w2.heap.size := by have := hbel.size; rw [hsz] at this; exact this
  have hfd := fldB1
  go_wp2_with (at_builtin; refine wpList_append_own _ rfl _ _ 60 rfl (w.heap.size + 1) 5 i0 (.int .u8 0) 1 1 Tryz.underlying60 hi hz0 hz1 hz2 rfl (by decide) _ 1 [.int .u8 _] rfl (World.ownsRow_lit w2 #[.int .u8 _] 1 hz (by unfold maxLen; omega) rfl) ⟨g, 0, none⟩ L.length _ (L.map (Value.int .u8)) rfl (by simp) ?c1 ?c2 ?c3 ?c4 ?c5 ?_)
  case c1 => intro j u hj; exact own_src hown _ j u hj
  case c2 => intro u hu; obtain ⟨x, _, rfl⟩ := List.mem_map.1 hu; rfl
  case c3 => unfold maxLen; omega
  case c4 => omega
  case c5 => simp; omega
  intro v' w3 hown3 hgrow _
  obtain ⟨a3, cap3, hv⟩ := own_shape hown3
  have hb1 : Below (w.heap.size + 1) (w.alloc (.cells #[.int .i64 0, .slice none 0 0] 111)) w3 := (hbel.alloc hz _).grown hgrow (by simp; omega) (fun g e => by cases e; exact hz)
  have hb3 : Below w.heap.size w w3 := ((Below.refl _ _).alloc (Nat.le_refl _) _).trans (hb1.mono (by omega))
  have q0 : w3.cell? ⟨w.heap.size, 0, none⟩ = some (.int .i64 0) := (hb1.cell (by simp)).trans (by simp)
  have q1 : w3.cell? ⟨w.heap.size, 1, none⟩ = some (.slice none 0 0) := (hb1.cell (by simp)).trans (by simp)
  have f0 : w3.frozen? ⟨w.heap.size, 0, none⟩ = false := (hb1.frozen (by simp)).trans (by simp)
  have f1 : w3.frozen? ⟨w.heap.size, 1, none⟩ = false := (hb1.frozen (by simp)).trans (by simp)
  rw [hv] at hown3
  rw [hv]
  have HO := hide hown3
  have HB := hide hb3
  clear hown3 hb3 hb1 hgrow hown hbel
  go_wp2_with fail
  refine bodyPost_ret (v := .agg #[.int .i64 0, .slice a3 (1 + L.length) cap3]) (by simp [results, Tryz.results153, go_sem, q0, q1]) rfl ⟨a3, cap3, ?_, ?_, ?_⟩
  · rw [Nat.add_comm]
  · have o : w3.ownsRow (w.heap.size + 1) 5 1 (.slice a3 (L.length + 1) cap3) (L.length + 1) (((bb + 55 + (L.length : Int)) :: L).map (Value.int .u8)) := by
      rw [Nat.add_comm L.length 1]; exact unhide HO
    exact ownsRow_base (ownsRow_setCell_below (ownsRow_setCell_below o (by simp) _) (by simp) _) (by omega)
  · exact ((unhide HB).setCell (by simp) _).setCell (by simp) _

theorem implHead_any (l : Bool) (n : Int) (w : World) :
    Calls Tryz.prog 153 #[.bool l, .int .i64 n] w fun e w' => ∃ a cap, e = .returned (.agg #[.int .i64 (hdCode n), .slice a (hdBytes l n).length cap]) ∧
      w'.ownsRow w.heap.size 5 1 (.slice a (hdBytes l n).length cap) (hdBytes l n).length ((hdBytes l n).map (Value.int .u8)) ∧ Below w.heap.size w w' := by
  by_cases hr : 0 ≤ n ∧ n ≤ 1200
  · have e1 : hdCode n = 0 := if_pos hr
    have e2 : hdBytes l n = headL l n := if_pos hr
    rw [e1, e2]
    by_cases h : n ≤ 55
    · exact implHead_small l n w hr.1 h
    · exact implHead_long l n w (by omega) hr.2
  · have e1 : hdCode n = 3 := if_neg hr
    have e2 : hdBytes l n = [] := if_neg hr
    rw [e1, e2]
    refine (implHead_out l n w (by omega)).mono fun e w' hq => ?_
    exact ⟨none, 0, hq.1, World.ownsRow_nil _ _ _ _, hq.2⟩

end Go.Proofs.YtldiilmpmcbjkaaGreatDoor

/- What is proved here: what the program's headOf answers: the head of an item, in new memory. -/
namespace Go.Proofs.YtldiilmpmcbjkaaGreatDoor
open Go.RowKit
set_option linter.unusedVariables false
set_option maxRecDepth 100000

set_option maxHeartbeats 2000000 in
theorem headOf_any (l : Bool) (p : Int) (sa : Option Addr) (sl sc : Nat) (z : List Int) (n : Nat) (w : World) (h : BRow w sa sl z) (hn : l = false → n = sl) :
    Calls Tryz.prog 146 #[.agg #[.bool l, .int .i64 p, .slice sa sl sc], .int .i64 (n : Int)] w fun e w' => ∃ a' cap', e = .returned (.slice a' (hdI ⟨l, p, z⟩ n).length cap') ∧
      w'.ownsRow w.heap.size 5 1 (.slice a' (hdI ⟨l, p, z⟩ n).length cap') (hdI ⟨l, p, z⟩ n).length ((hdI ⟨l, p, z⟩ n).map (Value.int .u8)) ∧ Below w.heap.size w w' := by
  have hzl := h.1
  by_cases t : l = false ∧ n = 1 ∧ z.getD 0 0 < 128
  · have e : hdI ⟨l, p, z⟩ n = [] := if_pos t
    rw [e]
    obtain ⟨rfl, rfl, h128⟩ := t
    have hs1 : sl = 1 := (hn rfl).symm
    subst hs1
    obtain ⟨b, off, rfl, hbl, hcell⟩ := h.at (by omega)
    have c0 := hcell 0 (by omega)
    rw [Nat.add_zero] at c0
    have c0' : ∀ o, (w.alloc o).cell? ⟨b, off, none⟩ = some (.int .u8 (z.getD 0 0)) := fun o => ((below_alloc w o).cell hbl).trans c0
    generalize z.getD 0 0 = x at c0 h128 c0'
    have d1 : decide (x < 128) = true := decide_eq_true h128
    clear h hcell e hn c0
    go_enter Tryz.func146, Tryz.ntmps146
    go_wp2_with fail
    go_ret
    exact ⟨none, 0, rfl, World.ownsRow_nil _ _ _ _, below_alloc w _⟩
  · have e : hdI ⟨l, p, z⟩ n = hdBytes l n := if_neg t
    rw [e]
    have HH : Hid (∀ W, Calls Tryz.prog 153 #[.bool l, .int .i64 (n : Int)] W fun e w' => ∃ a cap c, e = .returned (.agg #[.int .i64 c, .slice a (hdBytes l n).length cap]) ∧ w'.ownsRow W.heap.size 5 1 (.slice a (hdBytes l n).length cap) (hdBytes l n).length ((hdBytes l n).map (Value.int .u8)) ∧ Below W.heap.size W w') := fun W =>
      (implHead_any l n W).mono fun e w' ⟨a, cap, he, ho, hb⟩ => ⟨a, cap, _, he, ho, hb⟩
    have hfd := fldB1
    generalize hdBytes l n = L at HH
    cases l
    · by_cases n1 : n = 1
      · subst n1
        have hs1 : sl = 1 := (hn rfl).symm
        subst hs1
        obtain ⟨b, off, rfl, hbl, hcell⟩ := h.at (by omega)
        have c0 := hcell 0 (by omega)
        rw [Nat.add_zero] at c0
        have c0' : ∀ o, (w.alloc o).cell? ⟨b, off, none⟩ = some (.int .u8 (z.getD 0 0)) := fun o => ((below_alloc w o).cell hbl).trans c0
        have h128 : ¬ z.getD 0 0 < 128 := fun hh => t ⟨rfl, rfl, hh⟩
        generalize z.getD 0 0 = x at c0 h128 c0'
        have d1 : decide (x < 128) = false := decide_eq_false h128
        clear h hcell e hn c0 t
        go_enter Tryz.func146, Tryz.ntmps146
        go_wp2_with fail
        refine ((unhide HH) _).mono ?_
        rintro e w2 ⟨a2, c2, cc, rfl, o2, b2⟩
        go_wp2_with fail
        go_ret
        exact ⟨a2, c2, rfl, ownsRow_base o2 (by simp), (below_alloc w _).trans (b2.mono (by simp))⟩
      · have d1 : (((n : Nat) : Int) == 1) = false := by simp; omega
        clear h e hn t
        go_enter Tryz.func146, Tryz.ntmps146
        go_wp2_with fail
        refine ((unhide HH) _).mono ?_
        rintro e w2 ⟨a2, c2, cc, rfl, o2, b2⟩
        go_wp2_with fail
        go_ret
        exact ⟨a2, c2, rfl, ownsRow_base o2 (by simp), (below_alloc w _).trans (b2.mono (by simp))⟩
    · clear h e hn t
      go_enter Tryz.func146, Tryz.ntmps146
      go_wp2_with fail
      refine ((unhide HH) _).mono ?_
      rintro e w2 ⟨a2, c2, cc, rfl, o2, b2⟩
      go_wp2_with fail
      go_ret
      exact ⟨a2, c2, rfl, ownsRow_base o2 (by simp), (below_alloc w _).trans (b2.mono (by simp))⟩

end Go.Proofs.YtldiilmpmcbjkaaGreatDoor

/- What is proved here: a row that a call owns is a block of values; it holds for every program. -/
namespace Go.Proofs.YtldiilmpmcbjkaaGreatDoor
open Go.RowKit
set_option linter.unusedVariables false
set_option maxRecDepth 100000

theorem own_vblk {w : World} {B g n : Nat} {e : TypeId} {size : Nat} {xs : List Value} (h : w.ownsRow B e size (.slice (some ⟨g, 0, none⟩) n n) n xs) : ∃ vs, VBlk w g vs e ∧ vs.length = n * size := by
  rcases h.2 with ⟨h', _⟩ | ⟨g', cap', cur, h', hb, hg, hnc, hcm, hcs, htake⟩
  · simp at h'
  · simp only [Value.slice.injEq, Option.some.injEq, Addr.mk.injEq, and_true, true_and] at h'
    obtain ⟨rfl, rfl⟩ := h'
    exact ⟨cur.toList, by unfold VBlk; simpa using hg, by simpa using hcs⟩

end Go.Proofs.YtldiilmpmcbjkaaGreatDoor
