/- What is proved here: what the model's l5Pack answers for a header without a fault: its bytes. -/
import Derived.Test.YtioifgbnninmjaaGreatDoorJ10
import Derived.Deep.AppendLies
import Derived.Deep.RegionHeld3
import Derived.Deep.DeepCutAuto
import Derived.Deep.CutBlock
import Derived.Test.YtioifgbnninmjaaGreatDoorJ9
import Derived.Test.YtioifgbnninmjaaGreatDoorJ8
import Derived.WalkKit
import Derived.WalkLawsBesides
import Derived.WalkSmall
import Derived.WalkSpells
import Derived.KernelRfl
import Derived.Test.YtioifgbnninmjaaGreatDoorChecked
import Derived.Test.YtioifgbnninmjaaGreatDoorJ1
import Derived.Deep.RegionWith
import Derived.BigRegion
namespace Go.Proofs.YtioifgbnninmjaaGreatDoor
open Go.RowKit
set_option linter.unusedVariables false
set_option maxRecDepth 100000

/-- The slices of a header are no bare nils with some room. -/
structure HNil (w : World) (x : HS) : Prop where
  p : x.p.a = none → x.p.c = 0
  t : x.t.a = none → x.t.c = 0
  s : BsNil w x.s.a x.s.n
  r : x.r.a = none → x.r.c = 0
  g : x.g.a = none → x.g.c = 0
  e : x.e.a = none → x.e.c = 0
  k : BsNil w x.k.a x.k.n

theorem HNil.below {w w' : World} {x : HS} (h : HNil w x) {B : Nat} (hb : Below B w w') (hB : w.heap.size ≤ B) : HNil w' x :=
  ⟨h.p, h.t, h.s.below hb hB, h.r, h.g, h.e, h.k.below hb hB⟩

theorem headL_pos (l : Bool) (n : Int) : 0 < (headL l n).length := by
  unfold headL
  split <;> simp

theorem pcL_pos (z : List Int) : 0 < (pcL z).length := by
  unfold pcL pcHd
  rw [List.length_append]
  split
  · rename_i h; omega
  · have := headL_pos false z.length; omega

theorem wrapL_pos (z : List Int) : 0 < (wrapL z).length := by
  unfold wrapL
  rw [List.length_append]
  have := headL_pos true z.length
  omega

/-- Bytes that the call owns, appended to bytes that it owns, in a region that draws its order. -/
theorem step_app {P : Program} {w : World} {ops : Array Oper} {o : Oper} {a : Act} {K : Act → World → Prop} {Q : Exit → Act → World → Prop} {E : Prop} (hgd : o.guard = none) (s x : Operand) (t : TypeId)
    (ho : o.op = .call { callee := .builtin .append, args := #[s, x], argTypes := #[t, t] }) (base : Nat) (i : TypeInfo) (ht : P.underlying t = some (.slice 5)) (hi : P.info? 5 = some i) (hz : i.zero = some (.int .u8 0)) (hsize : i.size = 1) (hby : i.bytes = 1)
    (v : Value) (n : Nat) (L : List Int) (hs : a.eval s = v) (hown : w.ownsRow base 5 1 v n (L.map (Value.int .u8))) (b2 : Nat) (u : Value) (m : Nat) (R : List Int) (hx : a.eval x = u) (hu : w.ownsRow b2 5 1 u m (R.map (Value.int .u8))) (hm : 0 < m) (h63 : n + m ≤ 100000) (hbase : base ≤ w.heap.size)
    (h : ∀ g c w', w'.ownsRow base 5 1 (.slice (some ⟨g, 0, none⟩) (n + m) c) (n + m) ((L ++ R).map (Value.int .u8)) → w.grownBy w' v.ownBlock → K (a.put o.dst (.slice (some ⟨g, 0, none⟩) (n + m) c)) w') :
    if Region.wanted o (yielded ops a.tmps) = true then Oper.wp P o a w K Q else E := by
  obtain ⟨g, c, rfl⟩ := own_some hu hm
  refine step_append_lies (w := w) hgd s x t ho base 5 i (.int .u8 0) 1 1 ht hi hz hsize hby rfl (by decide) v n _ hs hown ⟨g, 0, none⟩ m c (R.map (Value.int .u8)) hx (by have := hu.1; simpa using this) ?_ ?_ hm (by unfold maxLen; omega) (by omega) hbase _ rfl ?_
  · intro j q hj
    rw [add_none, Nat.zero_add, hu.cellAt j (by have := (List.getElem?_eq_some_iff.1 hj).1; have := hu.1; omega)]
    exact hj
  · intro q hq
    obtain ⟨z, _, rfl⟩ := List.mem_map.1 hq
    rfl
  · intro g' c' w' h1 h2 _ _
    exact h g' c' w' (by rw [List.map_append]; exact h1) h2

end Go.Proofs.YtioifgbnninmjaaGreatDoor

/- What is proved here: what the program's items answers: the items of a header, in new memory. -/
namespace Go.Proofs.YtioifgbnninmjaaGreatDoor
open Go.RowKit
set_option linter.unusedVariables false
set_option maxRecDepth 100000

theorem one_item (w0 : World) : HkR w0 w0.heap.size (w0.alloc (.cells #[.bool true, .int .i64 (-1), .slice none 0 0] 182)) (.slice (some ⟨w0.heap.size, 0, none⟩) 1 1) 1 [ls (-1)] := by
  refine ⟨rfl, fun it hit => ?_, below_alloc w0 _, [.slice none 0 0], rfl, World.ownsRow_lit w0 #[.bool true, .int .i64 (-1), .slice none 0 0] 1 (Nat.le_refl _) (by unfold maxLen; omega) rfl, fun i it u hi hu => ?_⟩
  · rw [List.mem_singleton.1 hit]
    exact ⟨by show (-9223372036854775808 : Int) ≤ -1; omega, by show (-1 : Int) ≤ 9223372036854775807; omega, Nat.zero_le _⟩
  · match i with
    | 0 => simp at hi hu; subst hi hu; exact Src.nil _ _ _
    | k + 1 => simp at hi

set_option maxRecDepth 100000 in
set_option maxHeartbeats 8000000 in
theorem items_any (x : HS) (h : Hd) (gd : HGood h) (w : World) (o : HOk w x h) (nn : HNil w x) :
    Calls Tryz.prog 141 #[.agg (hvals x h)] w fun e w' => ∃ a c, e = .returned (.slice a (hIts h).length c) ∧ ItRowN w' a (hIts h).length (hIts h) ∧ Below w.heap.size w w' := by
  have kb := SBlk.new w (hvals x h) 143
  have bb := below_alloc w (.cells (hvals x h) 143)
  obtain ⟨W0, eb⟩ : ∃ W0, w.alloc (.cells (hvals x h) 143) = W0 := ⟨_, rfl⟩
  rw [eb] at kb bb
  have hgw : w.heap.size < W0.heap.size := kb.lt
  have o0 := o.below bb (Nat.le_refl _)
  have n0 := nn.below bb (Nat.le_refl _)
  have hsn : x.s.n = h.s.length := o.s.1.symm
  have hkn : x.k.n = h.k.length := o.k.1.symm
  have m1 := one_item W0
  have b01 := below_alloc W0 (.cells #[.bool true, .int .i64 (-1), .slice none 0 0] 182)
  obtain ⟨W1, e1⟩ : ∃ W1, W0.alloc (.cells #[.bool true, .int .i64 (-1), .slice none 0 0] 182) = W1 := ⟨_, rfl⟩
  rw [e1] at m1 b01
  have HCB := hide (fun (W' : World) (hb : Below W0.heap.size W0 W') => hcells (kb.below hb kb.lt))
  have gs := gd.s
  have gk := gd.k
  have pl := gd.p
  have rl := gd.r
  have gl := gd.g
  have el := gd.e
  have t1 := sh_length h.n1
  have t2 := sh_length h.n2
  have t3 := sh_length h.n3
  have hB1 : W0.heap.size ≤ W1.heap.size := b01.size
  have HAP : Hid (∀ (w1 : World) (a1 : Option Addr) (c1 : Nat) (a2 : Option Addr) (c2 : Nat) (a3 : Option Addr) (c3 : Nat), Below W1.heap.size W1 w1 → w1.ownsRow W1.heap.size 5 1 (.slice a1 (shortF 7 h.n1).length c1) (shortF 7 h.n1).length ((shortF 7 h.n1).map (Value.int .u8)) → w1.ownsRow W1.heap.size 5 1 (.slice a2 (shortF 7 h.n2).length c2) (shortF 7 h.n2).length ((shortF 7 h.n2).map (Value.int .u8)) → w1.ownsRow W1.heap.size 5 1 (.slice a3 (shortF 7 h.n3).length c3) (shortF 7 h.n3).length ((shortF 7 h.n3).map (Value.int .u8)) →
      Calls Tryz.prog 153 #[.slice (some ⟨W0.heap.size, 0, none⟩) 1 1, .int .i64 0, .slice (some ⟨w1.heap.size, 0, none⟩) 4 4] (w1.alloc (.cells #[.slice x.p.a x.p.n x.p.c, .slice a1 (shortF 7 h.n1).length c1, .slice a2 (shortF 7 h.n2).length c2, .slice a3 (shortF 7 h.n3).length c3] 36)) fun e w' => ∃ a' c', e = .returned (.slice a' 5 c') ∧ HkR W0 W0.heap.size w' (.slice a' 5 c') 5 ([ls (-1)] ++ [lf 0 h.p, lf 0 (shortF 7 h.n1), lf 0 (shortF 7 h.n2), lf 0 (shortF 7 h.n3)]) ∧ W0.heap.size ≤ w'.heap.size) := fun w1 a1 c1 a2 c2 a3 c3 hb1 r1 r2 r3 => by
    have hBw : W0.heap.size ≤ w1.heap.size := Nat.le_trans hB1 hb1.size
    have m2 := (m1.below hb1 (Nat.le_refl _) hB1).below (below_alloc w1 (.cells #[.slice x.p.a x.p.n x.p.c, .slice a1 (shortF 7 h.n1).length c1, .slice a2 (shortF 7 h.n2).length c2, .slice a3 (shortF 7 h.n3).length c3] 36)) (Nat.le_refl _) hBw
    have pr := prow_lit (w0 := W0) (B := W0.heap.size) (w1 := w1) #[.slice x.p.a x.p.n x.p.c, .slice a1 (shortF 7 h.n1).length c1, .slice a2 (shortF 7 h.n2).length c2, .slice a3 (shortF 7 h.n3).length c3] [h.p, shortF 7 h.n1, shortF 7 h.n2, shortF 7 h.n3] rfl hBw (fun z hz => by simp at hz; rcases hz with rfl | rfl | rfl | rfl <;> (unfold maxLen; omega)) (by simp) (fun i z u hz hu => by
      match i with
      | 0 => simp at hz hu; subst hz hu; exact .inl ⟨_, _, _, rfl, o0.p, n0.p⟩
      | 1 => simp at hz hu; subst hz hu; exact .inr ⟨ownsRow_base r1 hB1, shortF_range 7 _⟩
      | 2 => simp at hz hu; subst hz hu; exact .inr ⟨ownsRow_base r2 hB1, shortF_range 7 _⟩
      | 3 => simp at hz hu; subst hz hu; exact .inr ⟨ownsRow_base r3 hB1, shortF_range 7 _⟩
      | k + 4 => simp at hz)
    refine (addParts_any W0 W0.heap.size (Nat.le_refl _) _ 1 1 _ _ m2 0 ⟨by omega, by omega⟩ _ 4 4 _ pr (by simp; omega) (by omega)).mono ?_
    rintro e w' ⟨a', c', he, hm', hk', hb'⟩
    exact ⟨a', c', he, hm', hb'⟩
  have HS1 := hide (fun W' => shortOf_any h.n1 W' gd.n1.1 gd.n1.2)
  have HS2 := hide (fun W' => shortOf_any h.n2 W' gd.n2.1 gd.n2.2)
  have HS3 := hide (fun W' => shortOf_any h.n3 W' gd.n3.1 (by have := gd.n3.2; omega))
  have HAV : Hid (∀ (W' : World) (a : Option Addr) (c : Nat) (its : List It), HkR W0 W0.heap.size W' (.slice a 5 c) 5 its → W0.heap.size ≤ W'.heap.size → Calls Tryz.prog 155 #[.agg #[.slice x.t.a x.t.n x.t.c, .int .i64 h.n5, .slice x.s.a x.s.n x.s.c], .slice a 5 c] W' fun e w' => ∃ a' c', e = .returned (.slice a' (8 + h.s.length) c') ∧ HkR W0 W0.heap.size w' (.slice a' (8 + h.s.length) c') (8 + h.s.length) (its ++ [lf 0 h.t, lf 0 (shortF 7 h.n5)] ++ [ls 0] ++ h.s.map (lf 7)) ∧ W0.heap.size ≤ w'.heap.size) := fun W' a c its hm hb => by
    refine (addVotes_any W0 W0.heap.size (Nat.le_refl _) x h gd o0.t n0.t o0.s n0.s a 5 c its W' hm hb (by omega)).mono ?_
    rintro e w' ⟨a', c', he, hm', _, hb'⟩
    rw [hsn, show 5 + 2 + 1 + h.s.length = 8 + h.s.length by omega] at he hm'
    exact ⟨a', c', he, hm', hb'⟩
  have HAQ : Hid (∀ (W' : World) (a : Option Addr) (c : Nat) (its : List It), HkR W0 W0.heap.size W' (.slice a (8 + h.s.length) c) (8 + h.s.length) its → W0.heap.size ≤ W'.heap.size → Calls Tryz.prog 153 #[.slice a (8 + h.s.length) c, .int .i64 0, .slice (some ⟨W'.heap.size, 0, none⟩) 3 3] (W'.alloc (.cells #[.slice x.r.a x.r.n x.r.c, .slice x.g.a x.g.n x.g.c, .slice x.e.a x.e.n x.e.c] 36)) fun e w' => ∃ a' c', e = .returned (.slice a' (11 + h.s.length) c') ∧ HkR W0 W0.heap.size w' (.slice a' (11 + h.s.length) c') (11 + h.s.length) (its ++ [lf 0 h.r, lf 0 h.g, lf 0 h.e]) ∧ W0.heap.size ≤ w'.heap.size) := fun W' a c its hm hb => by
    have m2 := hm.below (below_alloc W' (.cells #[.slice x.r.a x.r.n x.r.c, .slice x.g.a x.g.n x.g.c, .slice x.e.a x.e.n x.e.c] 36)) (Nat.le_refl _) hb
    have pr := prow_lit (w0 := W0) (B := W0.heap.size) (w1 := W') #[.slice x.r.a x.r.n x.r.c, .slice x.g.a x.g.n x.g.c, .slice x.e.a x.e.n x.e.c] [h.r, h.g, h.e] rfl hb (fun z hz => by simp at hz; rcases hz with rfl | rfl | rfl <;> (unfold maxLen; omega)) (by simp) (fun i z u hz hu => by
      match i with
      | 0 => simp at hz hu; subst hz hu; exact .inl ⟨_, _, _, rfl, o0.r, n0.r⟩
      | 1 => simp at hz hu; subst hz hu; exact .inl ⟨_, _, _, rfl, o0.g, n0.g⟩
      | 2 => simp at hz hu; subst hz hu; exact .inl ⟨_, _, _, rfl, o0.e, n0.e⟩
      | k + 3 => simp at hz)
    refine (addParts_any W0 W0.heap.size (Nat.le_refl _) a (8 + h.s.length) c its _ m2 0 ⟨by omega, by omega⟩ _ 3 3 _ pr (by simp; omega) (by omega)).mono ?_
    rintro e w' ⟨a', c', he, hm', hk', hb'⟩
    exact ⟨a', c', by rw [he, show 11 + h.s.length = 8 + h.s.length + 3 by omega], by rw [show 11 + h.s.length = 8 + h.s.length + 3 by omega]; exact hm', hb'⟩
  have HAL : Hid (∀ (W' : World) (a : Option Addr) (c : Nat) (its : List It), HkR W0 W0.heap.size W' (.slice a (11 + h.s.length) c) (11 + h.s.length) its → W0.heap.size ≤ W'.heap.size → Calls Tryz.prog 156 #[.slice a (11 + h.s.length) c, .slice x.k.a x.k.n x.k.c] W' fun e w' => ∃ a' c', e = .returned (.slice a' (12 + h.s.length + h.k.length) c') ∧ HkR W0 W0.heap.size w' (.slice a' (12 + h.s.length + h.k.length) c') (12 + h.s.length + h.k.length) (its ++ [ls 0] ++ h.k.map (lf ((11 + h.s.length : Nat) : Int)))) := fun W' a c its hm hb => by
    refine (addList_any W0 W0.heap.size (Nat.le_refl _) a (11 + h.s.length) c its W' hm x.k.a x.k.n x.k.c h.k (prow_of o0.k n0.k _ _) hb (by omega)).mono ?_
    rintro e w' ⟨a', c', he, hm', _, hb'⟩
    rw [hkn, show 11 + h.s.length + 1 + h.k.length = 12 + h.s.length + h.k.length by omega] at he hm'
    exact ⟨a', c', he, hm'⟩
  have HLN := hide (hIts_len h)
  have HITS : Hid ((([ls (-1)] ++ [lf 0 h.p, lf 0 (shortF 7 h.n1), lf 0 (shortF 7 h.n2), lf 0 (shortF 7 h.n3)] ++ [lf 0 h.t, lf 0 (shortF 7 h.n5)] ++ [ls 0] ++ h.s.map (lf 7)) ++ [lf 0 h.r, lf 0 h.g, lf 0 h.e] ++ [ls 0] ++ h.k.map (lf ((11 + h.s.length : Nat) : Int))) = hIts h) := by
    show _ = _
    unfold hIts hA hC
    simp only [List.cons_append, List.nil_append, List.append_assoc]
  have HB0 := hide bb
  have HB01 := hide b01
  clear o nn o0 n0 gd m1 kb bb b01 hsn hkn
  unfold hvals at eb ⊢
  go_enter Tryz.func141, Tryz.ntmps141
  go_upto_region 1 with (rw [eb])
  try rw [eb]
  clear eb
  go_upto_region 2 with (rw [e1])
  try rw [e1]
  clear e1
  have HCE : Hid (∀ W', Below W0.heap.size W0 W' → W'.cell? ⟨w.heap.size, 0, none⟩ = some (.slice x.p.a x.p.n x.p.c) ∧ W'.cell? ⟨w.heap.size, 1, none⟩ = some (.int .i64 h.n1) ∧ W'.cell? ⟨w.heap.size, 2, none⟩ = some (.int .i64 h.n2) ∧ W'.cell? ⟨w.heap.size, 3, none⟩ = some (.int .i64 h.n3)) := fun W' hb => by
    obtain ⟨c0, c1, c2, c3, _⟩ := (unhide HCB) W' hb
    exact ⟨c0, c1, c2, c3⟩
  go_region_held3 (fun W' => W'.cell? ⟨w.heap.size, 0, none⟩ = some (.slice x.p.a x.p.n x.p.c) ∧ W'.cell? ⟨w.heap.size, 1, none⟩ = some (.int .i64 h.n1) ∧ W'.cell? ⟨w.heap.size, 2, none⟩ = some (.int .i64 h.n2) ∧ W'.cell? ⟨w.heap.size, 3, none⟩ = some (.int .i64 h.n3))
    (first | exact s9 | exact (unhide HCE) _ (Below.trans (unhide HB01) (Below.mono (by first | assumption | exact (Below.refl W1.heap.size W1).drew | exact below_drewN (Below.refl W1.heap.size W1) _ | exact Below.alloc (by assumption) (Below.size (by assumption)) _) hB1)))
    (first
      | (go_at_call_of 154 (h.n1); refine ((unhide HS1) _).mono ?_; rintro e v1 ⟨a1, c1, rfl, r1, b1⟩; have K1 : Below W1.heap.size W1 v1 := Below.trans (by first | exact (Below.refl W1.heap.size W1).drew | exact below_drewN (Below.refl W1.heap.size W1) _) b1; clear b1)
      | (go_at_call_of 154 (h.n2); refine ((unhide HS2) _).mono ?_; rintro e v2 ⟨a2, c2, rfl, r2, b2⟩; have r1 := own_below r1 b2 (Nat.le_refl _); have r2 := ownsRow_base r2 K1.size; have K2 : Below W1.heap.size W1 v2 := K1.trans (b2.mono K1.size); clear b2 K1)
      | (go_at_call_of 154 (h.n3); refine ((unhide HS3) _).mono ?_; rintro e v3 ⟨a3, c3, rfl, r3, b3⟩; have r1 := own_below r1 b3 (Nat.le_refl _); have r2 := own_below r2 b3 (Nat.le_refl _); have r3 := ownsRow_base r3 K2.size; have K3 : Below W1.heap.size W1 v3 := K2.trans (b3.mono K2.size); clear b3 K2)
      | (go_at_call 153; refine ((unhide HAP) v3 a1 c1 a2 c2 a3 c3 K3 r1 r2 r3).mono ?_; rintro e w2 ⟨a9, c9, rfl, m9, z9⟩; have s9 := (unhide HCE) w2 m9.2.2.1))
  all_goals
    obtain ⟨_, _, _, _, d4, d5, d6, _, _, _, _⟩ := (unhide HCB) w2 m9.2.2.1
    have HC := hide ((unhide HAV) w2 a9 c9 _ m9 z9)
    clear m9 z9 s9 r1 r2 r3 K3
    go_wp2_with fail
    refine (unhide HC).mono ?_
    rintro e w3 ⟨a3', c3', rfl, m3, z3⟩
    obtain ⟨_, _, _, _, _, _, _, d7, d8, d9, _⟩ := (unhide HCB) w3 m3.2.2.1
    have HC := hide ((unhide HAQ) w3 a3' c3' _ m3 z3)
    clear m3 z3 d4 d5 d6
    go_wp2_with fail
    refine (unhide HC).mono ?_
    rintro e w4 ⟨a4, c4, rfl, m4, z4⟩
    obtain ⟨_, _, _, _, _, _, _, _, _, _, d10⟩ := (unhide HCB) w4 m4.2.2.1
    have HC := hide ((unhide HAL) w4 a4 c4 _ m4 z4)
    clear m4 z4 d7 d8 d9
    go_wp2_with fail
    refine (unhide HC).mono ?_
    rintro e w5 ⟨a5, c5, rfl, m5⟩
    rw [unhide HITS] at m5
    have HM5 := hide m5
    clear m5
    go_wp2_with fail
    go_ret
    refine ⟨a5, c5, by rw [unhide HLN]; rfl, ?_, (unhide HB0).trans ((unhide HM5).2.2.1.mono (unhide HB0).size)⟩
    rw [unhide HLN]
    exact (unhide HM5).row (Nat.le_refl _)

end Go.Proofs.YtioifgbnninmjaaGreatDoor

/- What is proved here: the items of a header, encoded, are its bytes; no program is named. -/
namespace Go.Proofs.YtioifgbnninmjaaGreatDoor
open Go.RowKit
set_option linter.unusedVariables false
set_option maxRecDepth 100000

theorem kids_block {its : List It} {x : Int} : ∀ (n k : Nat), k + n ≤ its.length → (∀ i, i < n → pOf its (k + i) = x) → kidsFrom its x k = List.range' k n ++ kidsFrom its x (k + n)
  | 0, k, _, _ => by simp
  | n + 1, k, hk, h => by
    have h0 : pOf its k = x := by simpa using h 0 (by omega)
    rw [kidsFrom_yes (by omega) h0, kids_block n (k + 1) (by omega) (fun i hi => by have := h (i + 1) (by omega); rwa [show k + (i + 1) = k + 1 + i by omega] at this), List.range'_succ, List.cons_append, show k + 1 + n = k + (n + 1) by omega]

/-- Where the parents lie. -/
theorem pOf_cls {h : Hd} (gd : HGood h) (j : Nat) (hj : j < 12 + h.s.length + h.k.length) :
    (j = 0 → pOf (hIts h) j = -1) ∧ (1 ≤ j → j ≤ 7 → pOf (hIts h) j = 0) ∧ (8 ≤ j → j < 8 + h.s.length → pOf (hIts h) j = 7) ∧ (8 + h.s.length ≤ j → j ≤ 11 + h.s.length → pOf (hIts h) j = 0) ∧ (12 + h.s.length ≤ j → pOf (hIts h) j = ((11 + h.s.length : Nat) : Int)) := by
  obtain ⟨it, hit⟩ := it_at h j hj
  rw [pOf_some hit]
  rcases cls gd j it hit with ⟨rfl, rfl⟩ | ⟨h1, h2, z, rfl, _⟩ | ⟨rfl, rfl⟩ | ⟨h1, h2, z, rfl, _⟩ | ⟨h1, h2, z, rfl, _⟩ | ⟨rfl, rfl⟩ | ⟨h1, h2, z, rfl, _⟩
  all_goals refine ⟨fun _ => ?_, fun _ _ => ?_, fun _ _ => ?_, fun _ _ => ?_, fun _ => ?_⟩ <;> first | rfl | (exfalso; omega)

theorem no_kids {h : Hd} (gd : HGood h) (q : Nat) (h0 : q ≠ 0) (h7 : q ≠ 7) (h11 : q ≠ 11 + h.s.length) : kidsFrom (hIts h) (q : Int) 0 = [] := by
  refine kidsFrom_nil fun j _ hj => ?_
  rw [hIts_len] at hj
  obtain ⟨p0, p1, p2, p3, p4⟩ := pOf_cls gd j hj
  rcases Nat.eq_zero_or_pos j with e | e
  · rw [p0 e]; omega
  · rcases Nat.lt_or_ge j 8 with a | a
    · rw [p1 (by omega) (by omega)]; omega
    · rcases Nat.lt_or_ge j (8 + h.s.length) with b | b
      · rw [p2 a b]; omega
      · rcases Nat.lt_or_ge j (12 + h.s.length) with c | c
        · rw [p3 b (by omega)]; omega
        · rw [p4 c]; omega

theorem enc_leaf {h : Hd} (gd : HGood h) {j : Nat} {p : Int} {z : List Int} (h0 : j ≠ 0) (h7 : j ≠ 7) (h11 : j ≠ 11 + h.s.length) (hit : (hIts h)[j]? = some (lf p z)) : enc hdS (hIts h) j = pcL z := by
  have N := noFault_of (hIts_flt gd)
  have hc : cont hdS (hIts h) j (lf p z) = z := by unfold cont; rw [no_kids gd j h0 h7 h11]; simp [lf]
  rw [enc_eq hdS N.up hit, hc]
  unfold pcL pcHd hdS lf
  by_cases t : z.length = 1 ∧ z.getD 0 0 < 128
  · rw [if_pos t, if_pos ⟨rfl, t⟩]
  · rw [if_neg t, if_neg (fun hh => t hh.2)]

theorem enc_block {h : Hd} (gd : HGood h) (p : Int) : ∀ (zs : List (List Int)) (k : Nat), (∀ i (hi : i < zs.length), (hIts h)[k + i]? = some (lf p zs[i]) ∧ k + i ≠ 0 ∧ k + i ≠ 7 ∧ k + i ≠ 11 + h.s.length) → (List.range' k zs.length).flatMap (enc hdS (hIts h)) = pcsL zs
  | [], k, _ => by simp [pcsL]
  | z :: zs, k, hz => by
    obtain ⟨a1, a2, a3, a4⟩ := hz 0 (by simp)
    have ih := enc_block gd p zs (k + 1) (fun i hi => by
      have := hz (i + 1) (by simpa using hi)
      rw [show k + (i + 1) = k + 1 + i by omega] at this
      simpa using this)
    rw [List.length_cons, List.range'_succ, List.flatMap_cons, ih]
    rw [enc_leaf gd (z := z) (p := p) (by simpa using a2) (by simpa using a3) (by simpa using a4) (by simpa using a1)]
    rfl

theorem enc_list7 {h : Hd} (gd : HGood h) : enc hdS (hIts h) 7 = listL h.s := by
  have N := noFault_of (hIts_flt gd)
  have hit : (hIts h)[7]? = some (ls 0) := at_A h 7 (by omega)
  have hlen := hIts_len h
  have hk : kidsFrom (hIts h) ((7 : Nat) : Int) 0 = List.range' 8 h.s.length := by
    rw [kidsFrom_skip 8 0 (by omega) (by omega) (fun j _ hj => by
      obtain ⟨p0, p1, _⟩ := pOf_cls gd j (by omega)
      rcases Nat.eq_zero_or_pos j with e | e
      · rw [p0 e]; omega
      · rw [p1 (by omega) (by omega)]; omega)]
    rw [kids_block (x := ((7 : Nat) : Int)) h.s.length 8 (by omega) (fun i hi => (pOf_cls gd (8 + i) (by omega)).2.2.1 (by omega) (by omega))]
    rw [kidsFrom_nil (fun j hj1 hj2 => by
      rw [hlen] at hj2
      obtain ⟨_, _, _, p3, p4⟩ := pOf_cls gd j hj2
      rcases Nat.lt_or_ge j (12 + h.s.length) with c | c
      · rw [p3 hj1 (by omega)]; omega
      · rw [p4 c]; omega)]
    simp
  have hc : cont hdS (hIts h) 7 (ls 0) = pcsL h.s := by
    unfold cont
    rw [hk, enc_block gd 7 h.s 8 (fun i hi => ⟨at_S h i hi, by omega, by omega, by omega⟩)]
    rfl
  rw [enc_eq hdS N.up hit, hc]
  rfl

theorem enc_list11 {h : Hd} (gd : HGood h) : enc hdS (hIts h) (11 + h.s.length) = listL h.k := by
  have N := noFault_of (hIts_flt gd)
  have hit : (hIts h)[11 + h.s.length]? = some (ls 0) := by have := at_C h 3 (by omega); rw [show 8 + h.s.length + 3 = 11 + h.s.length by omega] at this; exact this
  have hlen := hIts_len h
  have hk : kidsFrom (hIts h) ((11 + h.s.length : Nat) : Int) 0 = List.range' (12 + h.s.length) h.k.length := by
    rw [kidsFrom_skip (12 + h.s.length) 0 (by omega) (by omega) (fun j _ hj => by
      obtain ⟨p0, p1, p2, p3, _⟩ := pOf_cls gd j (by omega)
      rcases Nat.eq_zero_or_pos j with e | e
      · rw [p0 e]; omega
      · rcases Nat.lt_or_ge j 8 with a | a
        · rw [p1 (by omega) (by omega)]; omega
        · rcases Nat.lt_or_ge j (8 + h.s.length) with b | b
          · rw [p2 a b]; omega
          · rw [p3 b (by omega)]; omega)]
    rw [kids_block h.k.length (12 + h.s.length) (by omega) (fun i hi => (pOf_cls gd (12 + h.s.length + i) (by omega)).2.2.2.2 (by omega))]
    rw [kidsFrom_end _ _ _ (by omega)]
    simp
  have hc : cont hdS (hIts h) (11 + h.s.length) (ls 0) = pcsL h.k := by
    unfold cont
    rw [hk, enc_block gd _ h.k (12 + h.s.length) (fun i hi => ⟨at_K h i hi, by omega, by omega, by omega⟩)]
    rfl
  rw [enc_eq hdS N.up hit, hc]
  rfl

theorem enc_header {h : Hd} (gd : HGood h) : enc hdS (hIts h) 0 = packL h := by
  have N := noFault_of (hIts_flt gd)
  have hit : (hIts h)[0]? = some (ls (-1)) := at_A h 0 (by omega)
  have hlen := hIts_len h
  have hk : kidsFrom (hIts h) ((0 : Nat) : Int) 0 = List.range' 1 7 ++ List.range' (8 + h.s.length) 4 := by
    rw [kidsFrom_skip 1 0 (by omega) (by omega) (fun j _ hj => by rw [(pOf_cls gd j (by omega)).1 (by omega)]; omega)]
    rw [kids_block (x := ((0 : Nat) : Int)) 7 1 (by omega) (fun i hi => (pOf_cls gd (1 + i) (by omega)).2.1 (by omega) (by omega))]
    rw [kidsFrom_skip (8 + h.s.length) (1 + 7) (by omega) (by omega) (fun j h1 h2 => by rw [(pOf_cls gd j (by omega)).2.2.1 (by omega) h2]; omega)]
    rw [kids_block (x := ((0 : Nat) : Int)) 4 (8 + h.s.length) (by omega) (fun i hi => (pOf_cls gd (8 + h.s.length + i) (by omega)).2.2.2.1 (by omega) (by omega))]
    rw [kidsFrom_nil (fun j hj1 hj2 => by
      rw [hlen] at hj2
      rw [(pOf_cls gd j hj2).2.2.2.2 (by omega)]; omega)]
    simp
  have e1 := enc_leaf gd (j := 1) (p := 0) (z := h.p) (by omega) (by omega) (by omega) (at_A h 1 (by omega))
  have e2 := enc_leaf gd (j := 2) (p := 0) (z := shortF 7 h.n1) (by omega) (by omega) (by omega) (at_A h 2 (by omega))
  have e3 := enc_leaf gd (j := 3) (p := 0) (z := shortF 7 h.n2) (by omega) (by omega) (by omega) (at_A h 3 (by omega))
  have e4 := enc_leaf gd (j := 4) (p := 0) (z := shortF 7 h.n3) (by omega) (by omega) (by omega) (at_A h 4 (by omega))
  have e5 := enc_leaf gd (j := 5) (p := 0) (z := h.t) (by omega) (by omega) (by omega) (at_A h 5 (by omega))
  have e6 := enc_leaf gd (j := 6) (p := 0) (z := shortF 7 h.n5) (by omega) (by omega) (by omega) (at_A h 6 (by omega))
  have e7 := enc_list7 gd
  have e8 := enc_leaf gd (j := 8 + h.s.length) (p := 0) (z := h.r) (by omega) (by omega) (by omega) (by have := at_C h 0 (by omega); exact this)
  have e9 := enc_leaf gd (j := 8 + h.s.length + 1) (p := 0) (z := h.g) (by omega) (by omega) (by omega) (at_C h 1 (by omega))
  have e10 := enc_leaf gd (j := 8 + h.s.length + 1 + 1) (p := 0) (z := h.e) (by omega) (by omega) (by omega) (at_C h 2 (by omega))
  have e11 := enc_list11 gd
  rw [show 11 + h.s.length = 8 + h.s.length + 1 + 1 + 1 by omega] at e11
  have hc : cont hdS (hIts h) 0 (ls (-1)) = bd6 h := by
    unfold cont
    rw [hk]
    have r1 : List.range' 1 7 = [1, 2, 3, 4, 5, 6, 7] := rfl
    have r2 : List.range' (8 + h.s.length) 4 = [8 + h.s.length, 8 + h.s.length + 1, 8 + h.s.length + 1 + 1, 8 + h.s.length + 1 + 1 + 1] := rfl
    rw [r1, r2]
    simp only [List.cons_append, List.nil_append, List.flatMap_cons, List.flatMap_nil, e1, e2, e3, e4, e5, e6, e7, e8, e9, e10, e11, ls]
    unfold bd6 bd5 bd4 bd3 bd2 bd1
    simp only [List.append_assoc, List.append_nil]
  rw [enc_eq hdS N.up hit, hc]
  rfl

/-- What EncodeItems answers for them. -/
theorem en_header {h : Hd} (gd : HGood h) : enCode (hIts h) = 0 ∧ enBytes (hIts h) = packL h := by
  have hl : (packL h).length ≤ 1200 := by
    have h1 := wrapL_length (bd6 h)
    have h2 := (bd_length gd).2.2.2.2.2
    unfold packL
    omega
  refine ⟨?_, ?_⟩
  · unfold enCode; rw [if_pos (hIts_flt gd), enc_header gd, if_neg (by omega)]
  · unfold enBytes; rw [enc_header gd, if_pos ⟨hIts_flt gd, hl⟩]

end Go.Proofs.YtioifgbnninmjaaGreatDoor

/- What is proved here: what the program's HeadBytes answers: the code and the head of an item, in new memory. -/
namespace Go.Proofs.YtioifgbnninmjaaGreatDoor
open Go.RowKit
set_option linter.unusedVariables false
set_option maxRecDepth 100000

theorem headStart_any (l : Bool) (w : World) : Calls Tryz.prog 173 #[.bool l] w fun e w' => e = .returned (.int .i64 (headB l)) ∧ w' = w := by
  cases l
  all_goals
    go_enter Tryz.func173, Tryz.ntmps173
    go_wp2
    go_ret
    exact ⟨rfl, rfl⟩

set_option maxHeartbeats 1000000 in
theorem implHead_out (l : Bool) (n : Int) (w : World) (h : n < 0 ∨ 1200 < n) :
    Calls Tryz.prog 171 #[.bool l, .int .i64 n] w fun e w' => e = .returned (.agg #[.int .i64 3, .slice none 0 0]) ∧ Below w.heap.size w w' := by
  by_cases h' : n < 0
  · have hd : decide (n < 0) = true := decide_eq_true h'
    go_enter Tryz.func171, Tryz.ntmps171
    go_wp2_with fail
    exact bodyPost_ret (v := .agg #[.int .i64 3, .slice none 0 0]) (by simp [results, Tryz.results171, go_sem]) rfl ⟨rfl, (Below.refl _ _).alloc (Nat.le_refl _) _⟩
  · have hd : decide (n < 0) = false := decide_eq_false h'
    have h2 : decide (1200 < n) = true := decide_eq_true (by omega)
    go_enter Tryz.func171, Tryz.ntmps171
    go_wp2_with fail
    exact bodyPost_ret (v := .agg #[.int .i64 3, .slice none 0 0]) (by simp [results, Tryz.results171, go_sem]) rfl ⟨rfl, (Below.refl _ _).alloc (Nat.le_refl _) _⟩

set_option maxHeartbeats 1000000 in
theorem implHead_small (l : Bool) (n : Int) (w : World) (h0 : 0 ≤ n) (h1 : n ≤ 55) :
    Calls Tryz.prog 171 #[.bool l, .int .i64 n] w fun e w' => ∃ a cap, e = .returned (.agg #[.int .i64 0, .slice a (headL l n).length cap]) ∧
      w'.ownsRow w.heap.size 5 1 (.slice a (headL l n).length cap) (headL l n).length ((headL l n).map (Value.int .u8)) ∧ Below w.heap.size w w' := by
  have e : headL l n = [headB l + n] := if_pos h1
  rw [e]
  have hb := headB_in l
  have hd : decide (n < 0) = false := decide_eq_false (by omega)
  have h2 : decide (1200 < n) = false := decide_eq_false (by omega)
  have h3 : decide (n ≤ 55) = true := decide_eq_true h1
  have HS := hide (fun W => headStart_any l W)
  generalize headB l = bb at HS hb
  go_enter Tryz.func171, Tryz.ntmps171
  go_wp2_with fail
  refine ((unhide HS) _).mono ?_
  rintro e w1 ⟨rfl, rfl⟩
  go_wp2_with fail
  refine bodyPost_ret (v := .agg #[.int .i64 0, .slice (some ⟨w.heap.size + 1, 0, none⟩) 1 1]) (by simp [results, Tryz.results171, go_sem]) rfl ⟨some ⟨w.heap.size + 1, 0, none⟩, 1, rfl, ?_, ?_⟩
  · have o := World.ownsRow_lit (base := w.heap.size) (e := 5) (size := 1) (w.alloc (.cells #[.int .i64 0, .slice (some ⟨w.heap.size + 1, 0, none⟩) 1 1] 120)) #[.int .u8 (bb + n)] 1 (by simp) (by unfold maxLen; omega) rfl
    simpa using o
  · exact ((Below.refl _ _).alloc (Nat.le_refl _) _).alloc (by simp) _

set_option maxHeartbeats 1000000 in
theorem implHead_long (l : Bool) (n : Int) (w : World) (h0 : 55 < n) (h1 : n ≤ 1200) :
    Calls Tryz.prog 171 #[.bool l, .int .i64 n] w fun e w' => ∃ a cap, e = .returned (.agg #[.int .i64 0, .slice a (headL l n).length cap]) ∧
      w'.ownsRow w.heap.size 5 1 (.slice a (headL l n).length cap) (headL l n).length ((headL l n).map (Value.int .u8)) ∧ Below w.heap.size w w' := by
  obtain ⟨i0, hi, hz0, hz1, hz2⟩ := info_parts info5
  have e : headL l n = (headB l + 55 + (shortF 7 n).length) :: shortF 7 n := if_neg (by omega)
  rw [e]
  have hb := headB_in l
  have hd : decide (n < 0) = false := decide_eq_false (by omega)
  have h2 : decide (1200 < n) = false := decide_eq_false (by omega)
  have h3 : decide (n ≤ 55) = false := decide_eq_false (by omega)
  have HS := hide (fun W => headStart_any l W)
  have HH := hide (fun W => implShort_pos n W (by omega) (by omega))
  have hs3 := shortF_small n (by omega) (by omega)
  have hs0 := shortF_pos n (by omega)
  clear e
  generalize headB l = bb at HS hb
  generalize shortF 7 n = L at HH hs3 hs0
  go_enter Tryz.func171, Tryz.ntmps171
  go_wp2_with fail
  refine ((unhide HS) _).mono ?_
  rintro e w1 ⟨rfl, rfl⟩
  go_wp2_with fail
  refine ((unhide HH) _).mono ?_
  rintro e w2 ⟨a, cap, rfl, hown, hbel⟩
  obtain ⟨g, cap', hv⟩ := own_some hown hs0
  simp only [Value.slice.injEq] at hv
  obtain ⟨rfl, _, rfl⟩ := hv
  have hsz : (w.alloc (.cells #[.int .i64 0, .slice none 0 0] 120)).heap.size = w.heap.size + 1 := by simp
  rw [hsz] at hown hbel
  have hz : w.heap.size + 1 ≤ w2.heap.size := by have := hbel.size; rw [hsz] at this; exact this
  have hfd := fldB1
  go_wp2_with (at_builtin; refine wpList_append_own _ rfl _ _ 36 rfl (w.heap.size + 1) 5 i0 (.int .u8 0) 1 1 Tryz.underlying36 hi hz0 hz1 hz2 rfl (by decide) _ 1 [.int .u8 _] rfl (World.ownsRow_lit w2 #[.int .u8 _] 1 hz (by unfold maxLen; omega) rfl) ⟨g, 0, none⟩ L.length _ (L.map (Value.int .u8)) rfl (by simp) ?c1 ?c2 ?c3 ?c4 ?c5 ?_)
  case c1 => intro j u hj; exact own_src hown _ j u hj
  case c2 => intro u hu; obtain ⟨x, _, rfl⟩ := List.mem_map.1 hu; rfl
  case c3 => unfold maxLen; omega
  case c4 => omega
  case c5 => simp; omega
  intro v' w3 hown3 hgrow _
  obtain ⟨a3, cap3, hv⟩ := own_shape hown3
  have hb1 : Below (w.heap.size + 1) (w.alloc (.cells #[.int .i64 0, .slice none 0 0] 120)) w3 := (hbel.alloc hz _).grown hgrow (by simp; omega) (fun g e => by cases e; exact hz)
  have hb3 : Below w.heap.size w w3 := ((Below.refl _ _).alloc (Nat.le_refl _) _).trans (hb1.mono (by omega))
  have q0 : w3.cell? ⟨w.heap.size, 0, none⟩ = some (.int .i64 0) := (hb1.cell (by simp)).trans (by simp)
  have q1 : w3.cell? ⟨w.heap.size, 1, none⟩ = some (.slice none 0 0) := (hb1.cell (by simp)).trans (by simp)
  have f0 : w3.frozen? ⟨w.heap.size, 0, none⟩ = false := (hb1.frozen (by simp)).trans (by simp)
  have f1 : w3.frozen? ⟨w.heap.size, 1, none⟩ = false := (hb1.frozen (by simp)).trans (by simp)
  rw [hv] at hown3
  rw [hv]
  have HO := hide hown3
  have HB := hide hb3
  clear hown3 hb3 hb1 hgrow hown hbel
  go_wp2_with fail
  refine bodyPost_ret (v := .agg #[.int .i64 0, .slice a3 (1 + L.length) cap3]) (by simp [results, Tryz.results171, go_sem, q0, q1]) rfl ⟨a3, cap3, ?_, ?_, ?_⟩
  · rw [Nat.add_comm]
  · have o : w3.ownsRow (w.heap.size + 1) 5 1 (.slice a3 (L.length + 1) cap3) (L.length + 1) (((bb + 55 + (L.length : Int)) :: L).map (Value.int .u8)) := by
      rw [Nat.add_comm L.length 1]; exact unhide HO
    exact ownsRow_base (ownsRow_setCell_below (ownsRow_setCell_below o (by simp) _) (by simp) _) (by omega)
  · exact ((unhide HB).setCell (by simp) _).setCell (by simp) _

theorem implHead_any (l : Bool) (n : Int) (w : World) :
    Calls Tryz.prog 171 #[.bool l, .int .i64 n] w fun e w' => ∃ a cap, e = .returned (.agg #[.int .i64 (hdCode n), .slice a (hdBytes l n).length cap]) ∧
      w'.ownsRow w.heap.size 5 1 (.slice a (hdBytes l n).length cap) (hdBytes l n).length ((hdBytes l n).map (Value.int .u8)) ∧ Below w.heap.size w w' := by
  by_cases hr : 0 ≤ n ∧ n ≤ 1200
  · have e1 : hdCode n = 0 := if_pos hr
    have e2 : hdBytes l n = headL l n := if_pos hr
    rw [e1, e2]
    by_cases h : n ≤ 55
    · exact implHead_small l n w hr.1 h
    · exact implHead_long l n w (by omega) hr.2
  · have e1 : hdCode n = 3 := if_neg hr
    have e2 : hdBytes l n = [] := if_neg hr
    rw [e1, e2]
    refine (implHead_out l n w (by omega)).mono fun e w' hq => ?_
    exact ⟨none, 0, hq.1, World.ownsRow_nil _ _ _ _, hq.2⟩

end Go.Proofs.YtioifgbnninmjaaGreatDoor

/- What is proved here: what the program's headOf answers: the head of an item, in new memory. -/
namespace Go.Proofs.YtioifgbnninmjaaGreatDoor
open Go.RowKit
set_option linter.unusedVariables false
set_option maxRecDepth 100000

set_option maxHeartbeats 2000000 in
theorem headOf_any (l : Bool) (p : Int) (sa : Option Addr) (sl sc : Nat) (z : List Int) (n : Nat) (w : World) (h : BRow w sa sl z) (hn : l = false → n = sl) :
    Calls Tryz.prog 165 #[.agg #[.bool l, .int .i64 p, .slice sa sl sc], .int .i64 (n : Int)] w fun e w' => ∃ a' cap', e = .returned (.slice a' (hdI ⟨l, p, z⟩ n).length cap') ∧
      w'.ownsRow w.heap.size 5 1 (.slice a' (hdI ⟨l, p, z⟩ n).length cap') (hdI ⟨l, p, z⟩ n).length ((hdI ⟨l, p, z⟩ n).map (Value.int .u8)) ∧ Below w.heap.size w w' := by
  have hzl := h.1
  by_cases t : l = false ∧ n = 1 ∧ z.getD 0 0 < 128
  · have e : hdI ⟨l, p, z⟩ n = [] := if_pos t
    rw [e]
    obtain ⟨rfl, rfl, h128⟩ := t
    have hs1 : sl = 1 := (hn rfl).symm
    subst hs1
    obtain ⟨b, off, rfl, hbl, hcell⟩ := h.at (by omega)
    have c0 := hcell 0 (by omega)
    rw [Nat.add_zero] at c0
    have c0' : ∀ o, (w.alloc o).cell? ⟨b, off, none⟩ = some (.int .u8 (z.getD 0 0)) := fun o => ((below_alloc w o).cell hbl).trans c0
    generalize z.getD 0 0 = x at c0 h128 c0'
    have d1 : decide (x < 128) = true := decide_eq_true h128
    clear h hcell e hn c0
    go_enter Tryz.func165, Tryz.ntmps165
    go_wp2_with fail
    go_ret
    exact ⟨none, 0, rfl, World.ownsRow_nil _ _ _ _, below_alloc w _⟩
  · have e : hdI ⟨l, p, z⟩ n = hdBytes l n := if_neg t
    rw [e]
    have HH : Hid (∀ W, Calls Tryz.prog 171 #[.bool l, .int .i64 (n : Int)] W fun e w' => ∃ a cap c, e = .returned (.agg #[.int .i64 c, .slice a (hdBytes l n).length cap]) ∧ w'.ownsRow W.heap.size 5 1 (.slice a (hdBytes l n).length cap) (hdBytes l n).length ((hdBytes l n).map (Value.int .u8)) ∧ Below W.heap.size W w') := fun W =>
      (implHead_any l n W).mono fun e w' ⟨a, cap, he, ho, hb⟩ => ⟨a, cap, _, he, ho, hb⟩
    have hfd := fldB1
    generalize hdBytes l n = L at HH
    cases l
    · by_cases n1 : n = 1
      · subst n1
        have hs1 : sl = 1 := (hn rfl).symm
        subst hs1
        obtain ⟨b, off, rfl, hbl, hcell⟩ := h.at (by omega)
        have c0 := hcell 0 (by omega)
        rw [Nat.add_zero] at c0
        have c0' : ∀ o, (w.alloc o).cell? ⟨b, off, none⟩ = some (.int .u8 (z.getD 0 0)) := fun o => ((below_alloc w o).cell hbl).trans c0
        have h128 : ¬ z.getD 0 0 < 128 := fun hh => t ⟨rfl, rfl, hh⟩
        generalize z.getD 0 0 = x at c0 h128 c0'
        have d1 : decide (x < 128) = false := decide_eq_false h128
        clear h hcell e hn c0 t
        go_enter Tryz.func165, Tryz.ntmps165
        go_wp2_with fail
        refine ((unhide HH) _).mono ?_
        rintro e w2 ⟨a2, c2, cc, rfl, o2, b2⟩
        go_wp2_with fail
        go_ret
        exact ⟨a2, c2, rfl, ownsRow_base o2 (by simp), (below_alloc w _).trans (b2.mono (by simp))⟩
      · have d1 : (((n : Nat) : Int) == 1) = false := by simp; omega
        clear h e hn t
        go_enter Tryz.func165, Tryz.ntmps165
        go_wp2_with fail
        refine ((unhide HH) _).mono ?_
        rintro e w2 ⟨a2, c2, cc, rfl, o2, b2⟩
        go_wp2_with fail
        go_ret
        exact ⟨a2, c2, rfl, ownsRow_base o2 (by simp), (below_alloc w _).trans (b2.mono (by simp))⟩
    · clear h e hn t
      go_enter Tryz.func165, Tryz.ntmps165
      go_wp2_with fail
      refine ((unhide HH) _).mono ?_
      rintro e w2 ⟨a2, c2, cc, rfl, o2, b2⟩
      go_wp2_with fail
      go_ret
      exact ⟨a2, c2, rfl, ownsRow_base o2 (by simp), (below_alloc w _).trans (b2.mono (by simp))⟩

end Go.Proofs.YtioifgbnninmjaaGreatDoor

/- What is proved here: a row that a call owns is a block of values; it holds for every program. -/
namespace Go.Proofs.YtioifgbnninmjaaGreatDoor
open Go.RowKit
set_option linter.unusedVariables false
set_option maxRecDepth 100000

theorem own_vblk {w : World} {B g n : Nat} {e : TypeId} {size : Nat} {xs : List Value} (h : w.ownsRow B e size (.slice (some ⟨g, 0, none⟩) n n) n xs) : ∃ vs, VBlk w g vs e ∧ vs.length = n * size := by
  rcases h.2 with ⟨h', _⟩ | ⟨g', cap', cur, h', hb, hg, hnc, hcm, hcs, htake⟩
  · simp at h'
  · simp only [Value.slice.injEq, Option.some.injEq, Addr.mk.injEq, and_true, true_and] at h'
    obtain ⟨rfl, rfl⟩ := h'
    exact ⟨cur.toList, by unfold VBlk; simpa using hg, by simpa using hcs⟩

end Go.Proofs.YtioifgbnninmjaaGreatDoor

/- What is proved here: what the program's headsOf answers for items without a fault: the head of each, in new memory. -/
namespace Go.Proofs.YtioifgbnninmjaaGreatDoor
open Go.RowKit
set_option linter.unusedVariables false
set_option maxRecDepth 100000

theorem infoSl : (Tryz.prog.info? 36).map (fun i => (i.zero, i.size, i.bytes)) = some (some (.slice none 0 0), 1, 24) := by kernel_rfl
theorem info3 : (Tryz.prog.info? 3).map (fun i => (i.zero, i.size, i.bytes)) = some (some (.int .i64 0), 1, 8) := by kernel_rfl

/-- The head of the item at a place. -/
def hdAt (its : List It) (j : Nat) (it : It) : List Int := hdI it (cont hdI its j it).length

/-- The heads from place r on lie in the block gh. -/
def HdOk (w : World) (gh base : Nat) (its : List It) (r : Nat) (T : TypeId) : Prop :=
  ∃ hv : List Value, VBlk w gh hv T ∧ hv.length = its.length ∧ ∀ j it, r ≤ j → its[j]? = some it → ∃ a c, hv[j]? = some (.slice a (hdAt its j it).length c) ∧ w.ownsRow base 5 1 (.slice a (hdAt its j it).length c) (hdAt its j it).length ((hdAt its j it).map (Value.int .u8))

/-- What is in the items below r, of those from r on, lies in the block gw. -/
def WiOk (w : World) (gw : Nat) (its : List It) (r : Nat) (T : TypeId) : Prop :=
  ∃ ws : List Int, VBlk w gw (ws.map (Value.int .i64)) T ∧ ws.length = its.length ∧ ∀ i, i < r → i < its.length → ws[i]? = some ((eFrom hdI its i r).length : Int)

theorem HdOk.below {w w' : World} {gh base : Nat} {its : List It} {r : Nat} {T : TypeId} (h : HdOk w gh base its r T) {B : Nat} (hb : Below B w w') (hB : w.heap.size ≤ B) : HdOk w' gh base its r T := by
  obtain ⟨hv, h1, h2, h3⟩ := h
  refine ⟨hv, h1.below hb (Nat.lt_of_lt_of_le h1.lt hB), h2, fun j it hj hit => ?_⟩
  obtain ⟨a, c, q1, q2⟩ := h3 j it hj hit
  exact ⟨a, c, q1, own_below q2 hb hB⟩

theorem WiOk.below {w w' : World} {gw : Nat} {its : List It} {r : Nat} {T : TypeId} (h : WiOk w gw its r T) {B : Nat} (hb : Below B w w') (hB : w.heap.size ≤ B) : WiOk w' gw its r T := by
  obtain ⟨ws, h1, h2, h3⟩ := h
  exact ⟨ws, h1.below hb (Nat.lt_of_lt_of_le h1.lt hB), h2, h3⟩

theorem VBlk.other {w : World} {g g' i : Nat} {vs : List Value} {T : TypeId} {v : Value} (h : VBlk w g vs T) (hne : g ≠ g') : VBlk (w.setCell ⟨g', i, none⟩ v) g vs T := by
  unfold VBlk
  rw [heap_setCell_other w ⟨g', i, none⟩ g v hne]
  exact h

/-- One item more: what is in it is told, and its parent's is. -/
theorem WiOk.step {w' : World} {gw k : Nat} {its : List It} {T : TypeId} {it : It} {ws : List Int} (hU : UpOk its its.length) (hit : its[k]? = some it) (hl : ws.length = its.length) (hws : ∀ i, i < k + 1 → i < its.length → ws[i]? = some ((eFrom hdI its i (k + 1)).length : Int))
    (x y : Int) (hv : VBlk w' gw (((ws.set k x).set it.p.toNat y).map (Value.int .i64)) T) (hy : 0 < k → y = ((eFrom hdI its it.p.toNat k).length : Int)) (h0 : 0 < k) : WiOk w' gw its k T := by
  have hk := (List.getElem?_eq_some_iff.1 hit).1
  obtain ⟨_, u1⟩ := hU k it hk hit
  obtain ⟨p0, p1⟩ := u1 h0
  refine ⟨_, hv, by simp [hl], fun i hi hil => ?_⟩
  by_cases e : i = it.p.toNat
  · rw [e, List.getElem?_set_self (by simp; omega), hy h0]
  · rw [List.getElem?_set_ne (by omega), List.getElem?_set_ne (by omega), hws i (by omega) hil]
    unfold eFrom
    rw [kidsFrom_no (k := k) hk (by rw [pOf_some hit]; omega)]

theorem HdOk.step {w w' : World} {gh base k : Nat} {its : List It} {T : TypeId} {it : It} {a : Option Addr} {c : Nat} (h : HdOk w gh base its (k + 1) T) (hit : its[k]? = some it) (hb : Below w.heap.size w w') (hg : gh < base)
    (ho : w'.ownsRow base 5 1 (.slice a (hdAt its k it).length c) (hdAt its k it).length ((hdAt its k it).map (Value.int .u8))) :
    HdOk (w'.setCell ⟨gh, k, none⟩ (.slice a (hdAt its k it).length c)) gh base its k T := by
  have hk := (List.getElem?_eq_some_iff.1 hit).1
  obtain ⟨hv, h1, h2, h3⟩ := h.below hb (Nat.le_refl _)
  refine ⟨_, h1.set k _, by simp [h2], fun j jt hj hjt => ?_⟩
  by_cases e : j = k
  · subst e
    obtain rfl : jt = it := by rw [hit] at hjt; exact (Option.some.inj hjt).symm
    exact ⟨a, c, by rw [List.getElem?_set_self (by omega)], ownsRow_setCell_below ho hg _⟩
  · obtain ⟨a', c', q1, q2⟩ := h3 j jt (by omega) hjt
    exact ⟨a', c', by rw [List.getElem?_set_ne (by omega)]; exact q1, ownsRow_setCell_below q2 hg _⟩

theorem HdOk.stored {w : World} {gh base g i : Nat} {its : List It} {r : Nat} {T : TypeId} {v : Value} (h : HdOk w gh base its r T) (hne : gh ≠ g) (hg : g < base) : HdOk (w.setCell ⟨g, i, none⟩ v) gh base its r T := by
  obtain ⟨hv, h1, h2, h3⟩ := h
  refine ⟨hv, h1.other hne, h2, fun j it hj hit => ?_⟩
  obtain ⟨a, c, q1, q2⟩ := h3 j it hj hit
  exact ⟨a, c, q1, ownsRow_setCell_below q2 hg _⟩

set_option maxHeartbeats 8000000 in
theorem headsOf_any (a : Option Addr) (len cap : Nat) (its : List It) (N : NoFault its) (w : World) (h : ItRowN w a len its) :
    Calls Tryz.prog 152 #[.slice a len cap] w fun e w' => e = .returned (.slice (some ⟨w.heap.size, 0, none⟩) len len) ∧ HdOk w' w.heap.size (w.heap.size + 1) its 0 36 ∧ Below w.heap.size w w' := by
  obtain ⟨i0, hi, hz0, hz1, hz2⟩ := info_parts infoSl
  obtain ⟨j0, hj, hy0, hy1, hy2⟩ := info_parts info3
  have hlen := h.1.1
  have hl200 : len ≤ 200 := by rw [← hlen]; exact N.few
  have hl0 : 0 < len := by rw [← hlen]; exact N.some
  obtain ⟨b, off, rfl, hb, hat⟩ := h.at hl0
  have HAT := hide hat
  clear hat h
  go_enter Tryz.func152, Tryz.ntmps152
  go_wp2_with (at_make; refine wpList_make_full _ rfl _ _ 37 rfl w.heap.size 36 i0 (.slice none 0 0) 1 Tryz.underlying37 hi hz0 hz1 _ _ _ _ len rfl rfl rfl rfl ?c1 ?c2 ?c3 ?_)
  case c1 => rw [hz2]; omega
  case c2 => unfold maxLen; omega
  case c3 => omega
  intro w1 hown1 hgrow1
  obtain ⟨hv, hvb, hvl⟩ := own_vblk hown1
  have b1 : Below w.heap.size w w1 := (Below.refl _ _).grown hgrow1 (Nat.le_refl _) (fun k e => by cases e)
  have hgh : w.heap.size < w1.heap.size := hvb.lt
  clear hown1 hgrow1
  go_wp2_with (at_make; refine wpList_make_full _ rfl _ _ 193 rfl w1.heap.size 3 j0 (.int .i64 0) 1 Tryz.underlying193 hj hy0 hy1 _ _ _ _ len rfl rfl rfl rfl ?c1 ?c2 ?c3 ?_)
  case c1 => rw [hy2]; omega
  case c2 => unfold maxLen; omega
  case c3 => omega
  intro w2 hown2 hgrow2
  have b2 : Below w1.heap.size w1 w2 := (Below.refl _ _).grown hgrow2 (Nat.le_refl _) (fun k e => by cases e)
  have hvb2 := hvb.below b2 hgh
  have hw0 : WiOk w2 w1.heap.size its len 3 := by
    rcases hown2.2 with ⟨h', _⟩ | ⟨g', cap', cur, h', _, hg, hnc, hcm, hcs, htake⟩
    · simp at h'
    · simp only [Value.slice.injEq, Option.some.injEq, Addr.mk.injEq, and_true, true_and] at h'
      obtain ⟨rfl, rfl⟩ := h'
      have hcur : cur.toList = (List.replicate len (0 : Int)).map (Value.int .i64) := by
        have e := htake
        rw [List.take_of_length_le (by simp; omega)] at e
        rw [e]
        show (madeCells #[Value.int .i64 0] len).toList = _
        rw [toList_madeCells_one]
        simp
      refine ⟨List.replicate len 0, by unfold VBlk; rw [hg, ← hcur], by simp [hlen], fun i hi1 hi2 => ?_⟩
      have e0 : eFrom hdI its i len = [] := by unfold eFrom; rw [kidsFrom_end its _ len (by omega)]; rfl
      rw [e0, List.getElem?_replicate]
      simp [hi1]
  have hh0 : HdOk w2 w.heap.size (w1.heap.size + 1) its len 36 := ⟨hv, hvb2, by omega, fun j it hj1 hit => by have := (List.getElem?_eq_some_iff.1 hit).1; omega⟩
  have B2 := b1.trans (b2.mono b1.size)
  generalize w1.heap.size = gw at hw0 hh0 hgh
  have HW0 := hide hw0
  have HH0 := hide hh0
  have HB2 := hide B2
  clear hw0 hh0 B2 b1 b2 hvb hvb2 hvl hown2 hgrow2
  go_wp2_with fail
  go_loopw [5] (fun i wr => ∃ (r : Nat) (q : Int), r ≤ len ∧ q = (r : Int) - 1 ∧ i = .int .i64 q ∧ HdOk wr w.heap.size (gw + 1) its r 36 ∧ WiOk wr gw its r 3 ∧ Below w.heap.size w wr) (fun i _ => (intOf i + 1).toNat)
  case atStart => exact ⟨len, (len : Int) - 1, Nat.le_refl _, rfl, rfl, unhide HH0, unhide HW0, unhide HB2⟩
  case round =>
    obtain ⟨r, q, hr, hq, rfl, hHd, hWi, hbr⟩ := hrel
    clear HW0 HH0 HB2
    cases r with
    | zero =>
      obtain rfl : q = -1 := by omega
      clear hq
      have HH := hide hHd
      have HB := hide hbr
      clear hHd hWi hbr
      go_wp2_with fail
      go_ret
      refine ⟨rfl, ?_, unhide HB⟩
      obtain ⟨hv, q1, q2, q3⟩ := unhide HH
      refine ⟨hv, q1, q2, fun j it hj hit => ?_⟩
      obtain ⟨a, c, p1, p2⟩ := q3 j it hj hit
      exact ⟨a, c, p1, ownsRow_base p2 (by omega)⟩
    | succ k =>
      obtain rfl : q = (k : Int) := by omega
      clear hq
      obtain ⟨it, hit⟩ : ∃ it, its[k]? = some it := ⟨_, List.getElem?_eq_getElem (by omega)⟩
      obtain ⟨sa, sc, c0, c1, c2, hrow, hnil⟩ := (unhide HAT) k it hit
      have hbc := hbr.cell (p := ⟨b, off + k * 3, none⟩) hb
      have c0r := (hbr.cell (p := ⟨b, off + k * 3, none⟩) hb).trans c0
      have c1r := (hbr.cell (p := ⟨b, off + k * 3 + 1, none⟩) hb).trans c1
      have c2r := (hbr.cell (p := ⟨b, off + k * 3 + 2, none⟩) hb).trans c2
      obtain ⟨ws, hwv, hwl, hws⟩ := hWi
      have hwk := hws k (by omega) (by omega)
      have hE := eFrom_le hdI hdI_length N k (k + 1) (by omega) (by omega) (by omega)
      have hce := cont_eq hdI N.up hit
      have hcl : (cont hdI its k it).length = it.z.length + (eFrom hdI its k (k + 1)).length := by rw [hce, List.length_append]
      have hz3 := N.small it (List.mem_of_getElem? hit)
      have w0 : wr.cell? ⟨gw, k, none⟩ = some (.int .i64 ((eFrom hdI its k (k + 1)).length : Int)) := by rw [hwv.cell]; simp [hwk]
      have f0 := hwv.free k
      have i1 : (0 : Int) ≤ (k : Int) := by omega
      have i2 : (k : Int) < (len : Int) := by omega
      have HCL := hide hcl
      have HHD := hide hHd
      have HWV := hide hwv
      have HWS := hide hws
      have HB := hide hbr
      have HIT := hide hit
      have HROW := hide (hrow.below hbr (Nat.le_refl _))
      have HL := hide hlen
      have HWL := hide hwl
      obtain ⟨ek, hek⟩ : ∃ ek, ek = (eFrom hdI its k (k + 1)).length := ⟨_, rfl⟩
      obtain ⟨zl, hzl⟩ : ∃ zl, zl = it.z.length := ⟨_, rfl⟩
      rw [← hek] at w0 hE
      rw [← hzl] at c2r hz3
      have HEK := hide hek
      have HZL := hide hzl
      clear hcl hce hHd hwv hws hbr hit hrow hnil hlen hwl hwk c0 c1 c2 hbc hek hzl
      go_upto_region 6 with fail
      go_cut [5] (fun s wx => s = .int .i64 (k : Int) ∧ wx = (wr.setCell ⟨gw, k, none⟩ (.int .i64 ((ek : Int) + (zl : Int)))).drew)
      case first =>
        go_region
        go_wp2_with fail
        go_meet
        exact ⟨rfl, rfl⟩
      case rest =>
        obtain ⟨rfl, hwc⟩ := hcut
        have hsetb : Below w.heap.size w wc := by rw [hwc]; exact ((unhide HB).setCell (p := ⟨gw, k, none⟩) (by show w.heap.size ≤ gw; omega) _).drew
        have hgv : VBlk wc gw ((ws.set k ((ek : Int) + (zl : Int))).map (Value.int .i64)) 3 := by
          rw [hwc, List.map_set]; exact (unhide HWV).set k _
        have hhd : HdOk wc w.heap.size (gw + 1) its (k + 1) 36 := by
          rw [hwc]
          exact ((unhide HHD).stored (g := gw) (i := k) (by omega) (Nat.lt_succ_self _)).below (B := (wr.setCell ⟨gw, k, none⟩ (.int .i64 ((ek : Int) + (zl : Int)))).heap.size) ((Below.refl _ _).drew) (Nat.le_refl _)
        clear hwc w0 f0 c0r c1r c2r HWV HHD HB HROW
        obtain ⟨sa, sc, c0, c1, c2, hrow, hnil⟩ := (unhide HAT) k it (unhide HIT)
        have c0r := (hsetb.cell (p := ⟨b, off + k * 3, none⟩) hb).trans c0
        have c1r := (hsetb.cell (p := ⟨b, off + k * 3 + 1, none⟩) hb).trans c1
        have c2r := (hsetb.cell (p := ⟨b, off + k * 3 + 2, none⟩) hb).trans c2
        rw [← unhide HZL] at c2r
        have hkw : k < ws.length := by rw [unhide HWL]; exact (List.getElem?_eq_some_iff.1 (unhide HIT)).1
        have w0 : wc.cell? ⟨gw, k, none⟩ = some (.int .i64 ((ek : Int) + (zl : Int))) := by rw [hgv.cell]; simp [hkw]
        have hh : ∃ u, wc.cell? ⟨w.heap.size, k, none⟩ = some u := by
          obtain ⟨hv, q1, q2, _⟩ := hhd
          rw [q1.cell]
          exact ⟨_, List.getElem?_eq_getElem (by rw [q2, ← unhide HWL]; exact hkw)⟩
        obtain ⟨u0, hu0⟩ := hh
        have hf0 : wc.frozen? ⟨w.heap.size, k, none⟩ = false := by obtain ⟨hv, q1, _⟩ := hhd; exact q1.free k
        have hcn : (cont hdI its k it).length = ek + zl := by rw [unhide HCL, ← unhide HEK, ← unhide HZL]; omega
        have hleaf : it.l = false → ek + zl = it.z.length := fun hl => by
          have hk0 := N.leaf k it (unhide HIT) hl (k + 1)
          have : ek = 0 := by rw [unhide HEK]; unfold eFrom; rw [hk0]; rfl
          rw [this, ← unhide HZL]; omega
        have HC := hide (headOf_any it.l it.p sa it.z.length sc it.z (ek + zl) wc.drew ((hrow.below hsetb (Nat.le_refl _)).below (B := wc.heap.size) ((Below.refl _ _).drew) (Nat.le_refl _)) hleaf)
        have hda : hdI ⟨it.l, it.p, it.z⟩ (ek + zl) = hdAt its k it := by unfold hdAt; rw [hcn]
        rw [hda, ← unhide HZL] at HC
        have HSTEP := hide (fun (w' : World) (a : Option Addr) (c : Nat) (hb' : Below wc.heap.size wc w') (ho : w'.ownsRow (gw + 1) 5 1 (.slice a (hdAt its k it).length c) (hdAt its k it).length ((hdAt its k it).map (Value.int .u8))) => hhd.step (unhide HIT) hb' (by omega) ho)
        have hgwl : gw < wc.heap.size := hgv.lt
        have HGV := hide hgv
        have HB := hide hsetb
        have hhl : (hdAt its k it).length ≤ 8 := hdI_length _ _
        obtain ⟨hl8, hhl8⟩ : ∃ hl8, hl8 = (hdAt its k it).length := ⟨_, rfl⟩
        rw [← hhl8] at HC HSTEP hhl
        have HH8 := hide hhl8
        generalize it.l = il at c0r HC
        have e64 : (((ek + zl : Nat)) : Int) = (ek : Int) + (zl : Int) := by omega
        rw [e64] at HC
        clear hhd hgv hsetb c0 c1 c2 hrow hnil hda hcn hleaf hhl8 hkw
        go_upto_region 7 with fail
        go_cut [5] (fun s wx => s = .int .i64 (k : Int) ∧ HdOk wx w.heap.size (gw + 1) its k 36 ∧ VBlk wx gw ((ws.set k ((ek : Int) + (zl : Int))).map (Value.int .i64)) 3 ∧ Below w.heap.size w wx ∧ ∃ a' c', wx.cell? ⟨w.heap.size, k, none⟩ = some (.slice a' hl8 c'))
        case first =>
          go_region_with (first | (go_at_call 165; refine (unhide HC).mono ?_; rintro e w4 ⟨a4, c4, rfl, o4, b4⟩; have u4 := (b4.cell (p := ⟨w.heap.size, k, none⟩) (by show w.heap.size < wc.heap.size; omega)).trans hu0; have f4 := (b4.frozen (p := ⟨w.heap.size, k, none⟩) (by show w.heap.size < wc.heap.size; omega)).trans hf0))
          all_goals
            go_wp2_with fail
            go_meet
            have K4 : Below wc.heap.size wc w4 := ((Below.refl _ _).drew).trans b4
            refine ⟨rfl, (unhide HSTEP) w4 a4 c4 K4 (ownsRow_base (by rw [unhide HH8] at o4; rw [← unhide HH8] at o4; exact o4) (by show gw + 1 ≤ wc.heap.size; omega)), ((unhide HGV).below K4 hgwl).other (by omega), ((unhide HB).trans (K4.mono (unhide HB).size)).setCell (Nat.le_refl _) _, a4, c4, World.cell?_setCell_same' _ _ _ (by rw [u4]; rfl)⟩
        case rest =>
          obtain ⟨rfl, hHd2, hWv2, hb2, a4, c4, hc4⟩ := hcut
          clear hu0 hf0 w0 c0r c1r c2r HSTEP HGV HB HC hgwl
          have hkl : k < its.length := (List.getElem?_eq_some_iff.1 (unhide HIT)).1
          have HHD2 := hide hHd2
          have HB2 := hide hb2
          have HWV2 := hide hWv2
          have hw0 : wc.cell? ⟨gw, k, none⟩ = some (.int .i64 ((ek : Int) + (zl : Int))) := by rw [hWv2.cell]; simp [unhide HWL, hkl]
          by_cases k0 : k = 0
          · have dk : decide ((0 : Int) < (k : Int)) = false := decide_eq_false (by omega)
            have dk' : decide (0 < k) = false := decide_eq_false (by omega)
            have HK0 := hide k0
            clear hHd2 hWv2 hb2 hw0 hc4 k0
            go_wp2_with fail
            go_roundw
            case rel =>
              refine ⟨k, (k : Int) - 1, by omega, rfl, rfl, unhide HHD2, ⟨_, unhide HWV2, by rw [List.length_set]; exact unhide HWL, fun i hi => ?_⟩, unhide HB2⟩
              rw [unhide HK0] at hi
              exact absurd hi (Nat.not_lt_zero _)
            case measure => simp [intOf]
          · have dk : decide ((0 : Int) < (k : Int)) = true := decide_eq_true (by omega)
            obtain ⟨_, u1⟩ := N.up k it hkl (unhide HIT)
            obtain ⟨p0, p1⟩ := u1 (by omega)
            obtain ⟨q, hq⟩ : ∃ q : Nat, it.p = (q : Int) := ⟨it.p.toNat, by omega⟩
            have hqk : q < k := by omega
            have hqt : it.p.toNat = q := by omega
            obtain ⟨sa, sc, _, c1, _, _, _⟩ := (unhide HAT) k it (unhide HIT)
            rw [hq] at c1
            have c1r := (hb2.cell (p := ⟨b, off + k * 3 + 1, none⟩) hb).trans c1
            obtain ⟨eq_, heq⟩ : ∃ eq_, eq_ = (eFrom hdI its q (k + 1)).length := ⟨_, rfl⟩
            have hEq := eFrom_le hdI hdI_length N q (k + 1) (by omega) (by omega) (by omega)
            rw [← heq] at hEq
            have hwq : wc.cell? ⟨gw, q, none⟩ = some (.int .i64 (eq_ : Int)) := by
              rw [hWv2.cell, heq, List.getElem?_map, List.getElem?_set_ne (by omega), (unhide HWS) q (by omega) (by omega)]
              rfl
            have hfq := hWv2.free q
            have hsum : ((eFrom hdI its q k).length : Int) = (eq_ : Int) + ((hl8 : Int) + ((ek : Int) + (zl : Int))) := by
              have e1 : eFrom hdI its q k = enc hdI its k ++ eFrom hdI its q (k + 1) := by
                unfold eFrom
                rw [kidsFrom_yes hkl (by rw [pOf_some (unhide HIT)]; exact hq), List.flatMap_cons]
              rw [e1, List.length_append, enc_eq hdI N.up (unhide HIT), List.length_append, ← heq]
              have e2 : (hdI it (cont hdI its k it).length).length = hl8 := (unhide HH8).symm
              have e3 := unhide HCL
              rw [← unhide HEK, ← unhide HZL] at e3
              omega
            have HSUM := hide hsum
            have HQT := hide hqt
            have j1 : (0 : Int) ≤ (q : Int) := by omega
            have j2 : (q : Int) < (len : Int) := by omega
            have hne : q ≠ k := by omega
            clear hHd2 hWv2 hb2 hsum hqt heq c1 hq p0 p1
            go_upto_region 9 with fail
            have HRES : Hid (HdOk ((wc.setCell ⟨gw, q, none⟩ (.int .i64 ((eq_ : Int) + ((hl8 : Int) + ((ek : Int) + (zl : Int)))))).drew) w.heap.size (gw + 1) its k 36 ∧ WiOk ((wc.setCell ⟨gw, q, none⟩ (.int .i64 ((eq_ : Int) + ((hl8 : Int) + ((ek : Int) + (zl : Int)))))).drew) gw its k 3 ∧ Below w.heap.size w ((wc.setCell ⟨gw, q, none⟩ (.int .i64 ((eq_ : Int) + ((hl8 : Int) + ((ek : Int) + (zl : Int)))))).drew)) := by
              refine ⟨?_, ?_, ?_⟩
              · exact ((unhide HHD2).stored (g := gw) (i := q) (by omega) (Nat.lt_succ_self _)).below (B := (wc.setCell ⟨gw, q, none⟩ (.int .i64 ((eq_ : Int) + ((hl8 : Int) + ((ek : Int) + (zl : Int)))))).heap.size) ((Below.refl _ _).drew) (Nat.le_refl _)
              · refine WiOk.step N.up (unhide HIT) (unhide HWL) (unhide HWS) ((ek : Int) + (zl : Int)) ((eq_ : Int) + ((hl8 : Int) + ((ek : Int) + (zl : Int)))) ?_ (fun _ => ?_) (by omega)
                · rw [unhide HQT, List.map_set]
                  exact (unhide HWV2).set q _
                · rw [unhide HQT]; exact (unhide HSUM).symm
              · exact ((unhide HB2).setCell (p := ⟨gw, q, none⟩) (by show w.heap.size ≤ gw; omega) _).drew
            go_region
            all_goals
              clear hwq hfq c1r hw0 hc4
              go_wp2_with fail
              go_roundw
              case rel => exact ⟨k, (k : Int) - 1, by omega, rfl, rfl, (unhide HRES).1, (unhide HRES).2.1, (unhide HRES).2.2⟩
              case measure => simp [intOf]

end Go.Proofs.YtioifgbnninmjaaGreatDoor
