/- What is proved here: whole structs loaded and stored at once, and the contracts of the laws' helper functions that copy headers, numbers, entries and stores, told by kinds (toHeader, toInt64S, toEntry). -/
import Derived.Test.YtldiilmpmcbjkaaGreatDoorJ14
import Derived.Test.YtldiilmpmcbjkaaGreatDoorJ4
import Derived.Test.YtldiilmpmcbjkaaGreatDoorJ1
import Derived.WalkKit
import Derived.WalkLawsBesides
import Derived.WalkSmall
import Derived.KernelRfl
import Derived.WalkSpells
import Derived.Test.YtldiilmpmcbjkaaGreatDoorChecked
import Derived.Test.YtldiilmpmcbjkaaGreatDoorJ2
import Derived.Test.YtldiilmpmcbjkaaGreatDoorJ3
import Derived.Deep.RegionWith
import Derived.Deep.DeepCutAuto
import Derived.BigQuiet
import Derived.Deep.QuietTactic
import Derived.Deep.RegionHeld3
namespace Go.Proofs.YtldiilmpmcbjkaaGreatDoor
open Go.RowKit
set_option linter.unusedVariables false
set_option linter.unusedSimpArgs false
set_option maxRecDepth 100000

theorem putRow_cells : ∀ (us : List Value) (w : World) (g o : Nat), putRow w g o us = w.setCells g o us
  | [], w, g, o => rfl
  | u :: r, w, g, o => putRow_cells r (w.setCell ⟨g, o, none⟩ u) g (o + 1)

theorem SBlk.putRow : ∀ (us : List Value) {w : World} {g : Nat} {vs : List Value} {T : TypeId} (_ : SBlk w g vs T) (o : Nat), SBlk (putRow w g o us) g (setL vs o us) T
  | [], w, g, vs, T, h, o => h
  | u :: r, w, g, vs, T, h, o => by
    rw [Go.Proofs.YtldiilmpmcbjkaaGreatDoor.putRow, setL]
    exact SBlk.putRow r (h.set o u) (o + 1)

theorem SBlk.putOther {w : World} {g g' : Nat} {vs : List Value} {T : TypeId} (h : SBlk w g vs T) (hne : g ≠ g') (o : Nat) (us : List Value) : SBlk (Go.Proofs.YtldiilmpmcbjkaaGreatDoor.putRow w g' o us) g vs T := (putRow_other us w g' o g hne).trans h

/-- A struct stored whole. -/
theorem st_run {w : World} {g : Nat} {vs : List Value} {T : TypeId} (h : SBlk w g vs T) (o : Nat) (us : List Value) (ty : TypeId) (hl : o + us.length ≤ vs.length) (hi : (Tryz.prog.info? ty).map (·.size) = some us.length) (h1 : us.toArray.all (·.oneCell') = true) :
    (Instr.storeAt ty (.pointer (some ⟨g, o, none⟩)) (.agg us.toArray)).run Tryz.prog w = .ok () (putRow w g o us) := by
  rw [putRow_cells]
  refine run_storeAt_mid (P := Tryz.prog) w g o ty us.toArray (fun j hj => ⟨?_, h.free _⟩) (by simpa using hi) h1
  rw [h.cell, List.getElem?_eq_getElem (by simp at hj; omega)]
  rfl

/-- A struct loaded whole. -/
theorem ld_run {w : World} {g : Nat} {o : Nat} (us : List Value) (ty : TypeId) (d : TypeDesc) (hs : ∀ j v, us[j]? = some v → w.cell? ⟨g, o + j, none⟩ = some v) (hu : Tryz.prog.underlying ty = some d) (hd : d.isRow = true) (hi : (Tryz.prog.info? ty).map (·.size) = some us.length) :
    (Instr.loadAt ty (.pointer (some ⟨g, o, none⟩))).run Tryz.prog w = .ok (.agg us.toArray) w :=
  run_loadAt_mid (P := Tryz.prog) w g o ty us d hs hu hd hi

theorem exec_load {P : Program} {ρ : Operand → Value} {o : Oper} {w : World} {ty : TypeId} {x : Operand} {p v : Value} (ho : o.op = .load ty x) (hx : ρ x = p) (hrun : (Instr.loadAt ty p).run P w = .ok v w) : (execOp ρ o).run P w = .ok (.value v) w := by
  unfold execOp
  simp only [ho, hx, Sem.run_bind, hrun, Sem.run_pure, Result.andThen_ok]

open Classical in
/-- A list of bytes in blocks of its own, whatever colours stand elsewhere. -/
theorem obss_made {w : World} {g : Nat} {zss : List (List Int)} {C : Nat} (h : OBss w g zss 60 C) (hr : ∀ z ∈ zss, ∀ x ∈ z, 0 ≤ x ∧ x ≤ 255) (hl : zss.length ≤ 1048576) (p : Path) :
    ∃ d : Nat → Path, ∀ d' : Nat → Path, (∀ q, g ≤ q → (q = g ∨ q < C) → d' q = d q) → RowOwn bytesK 60 w g d' p ⟨some ⟨g, 0, none⟩, zss.length, zss.length⟩ zss := by
  obtain ⟨vs, f, h1, h2, h3, h4, h5⟩ := h
  obtain ⟨d, hd⟩ : ∃ d : Nat → Path, d = fun q => if hq : ∃ i, i < zss.length ∧ f i = q then p ++ [hq.choose] else p := ⟨_, rfl⟩
  have dg : d g = p := by
    rw [hd]
    refine dif_neg ?_
    rintro ⟨i, hi, e⟩
    have := (h3 i hi).1
    omega
  have df : ∀ i, i < zss.length → d (f i) = p ++ [i] := by
    intro i hi
    have hq : ∃ j, j < zss.length ∧ f j = f i := ⟨i, hi, rfl⟩
    rw [hd]
    show (if hq : ∃ j, j < zss.length ∧ f j = f i then p ++ [hq.choose] else p) = _
    rw [dif_pos hq, strict_inj h4 hq.choose_spec.1 hi hq.choose_spec.2]
  refine ⟨d, fun d' hd' => ?_⟩
  have dg' : d' g = p := (hd' g (Nat.le_refl _) (.inl rfl)).trans dg
  have df' : ∀ i, i < zss.length → d' (f i) = p ++ [i] := fun i hi => (hd' (f i) (Nat.le_of_lt (h3 i hi).1) (.inr (h3 i hi).2)).trans (df i hi)
  obtain ⟨es, he1, he2⟩ : ∃ es : List Sl, es.length = zss.length ∧ ∀ (i : Nat) (e : Sl), es[i]? = some e → ∃ z, zss[i]? = some z ∧ e = ⟨some ⟨f i, 0, none⟩, z.length, z.length⟩ := by
    refine ⟨zss.zipIdx.map (fun q => ⟨some ⟨f q.2, 0, none⟩, q.1.length, q.1.length⟩), by simp, fun i e he => ?_⟩
    rw [List.getElem?_map, List.getElem?_zipIdx] at he
    cases hz : zss[i]? with
    | none => rw [hz] at he; simp at he
    | some z =>
      rw [hz] at he
      simp at he
      exact ⟨z, rfl, he.symm⟩
  refine ⟨rfl, es, vs, he1, ⟨h2.trans (Nat.mul_one _).symm, by show zss.length ≤ maxLen; unfold maxLen; omega, Nat.le_refl _, (fun e => by cases e), fun x hx => ?_⟩, fun x hx => by cases hx; exact dg', fun i e z he hz => ?_⟩
  · cases hx
    refine ⟨g, 0, vs.toArray, rfl, Nat.le_refl _, h1, by simp [h2, bytesK], ?_⟩
    show (vs.drop 0).take (zss.length * 1) = vs
    rw [List.drop_zero, Nat.mul_one, ← h2, List.take_length]
  · have hi := (List.getElem?_eq_some_iff.1 hz).1
    obtain ⟨z', hz', rfl⟩ := he2 i e he
    obtain rfl : z = z' := Option.some.inj (hz.symm.trans hz')
    obtain ⟨q1, q2⟩ := h5 i z hi hz
    refine ⟨fun j v hv => ?_, hr z (List.mem_of_getElem? hz), ownsRow_base q2 (by omega), fun x hx => by cases hx; exact df' i hi⟩
    match j, hv with
    | 0, hv =>
      simp only [bytesK, List.getElem?_cons_zero, Option.some.injEq] at hv
      subst hv
      have e1 : bytesK.m = 1 := rfl
      rw [e1, Nat.mul_one, Nat.add_zero]
      exact q1

/-- A header in blocks of its own is owned, path by path. -/
theorem HOwn.hk {w v : World} {B : Nat} {x y : HS} {h : Hd} (o : HOwn w B x h) (q : HOk v y h) (i : HIn h) (m : HSm h) (p : Path) : ∃ d : Nat → Path, hdK.Own w B d p x h := by
  obtain ⟨g1, g2, g3, g4, g5, g6, g7, rfl, ⟨l0, l1, l2, l3, l4, l5, l6⟩, o1, o2, o3, o4, o5, o6, o7⟩ := o
  have lt7 : g7 < w.heap.size := BUpto.lt o7
  obtain ⟨ds, hs⟩ := obss_made o3 q.s.bytes m.s (p ++ [1] ++ [1] ++ [1] ++ [1] ++ [1] ++ [1] ++ [0])
  obtain ⟨dk, hk⟩ := obss_made o7 q.k.bytes m.k (p ++ [1] ++ [1] ++ [1] ++ [1] ++ [1] ++ [1] ++ [1] ++ [1] ++ [1] ++ [1])
  obtain ⟨d, hd⟩ : ∃ d : Nat → Path, d = fun g => if g < g2 then p ++ [0] else if g < g3 then p ++ [1] ++ [1] ++ [1] ++ [1] ++ [0] else if g < g4 then ds g else if g < g5 then p ++ [1] ++ [1] ++ [1] ++ [1] ++ [1] ++ [1] ++ [1] ++ [0] else if g < g6 then p ++ [1] ++ [1] ++ [1] ++ [1] ++ [1] ++ [1] ++ [1] ++ [1] ++ [0] else if g < g7 then p ++ [1] ++ [1] ++ [1] ++ [1] ++ [1] ++ [1] ++ [1] ++ [1] ++ [1] ++ [0] else dk g := ⟨_, rfl⟩
  have s' := hs d (fun q h1 h2 => by
    rw [hd]
    dsimp only
    rw [if_neg (by omega), if_neg (by omega), if_pos (by omega)])
  have k' := hk d (fun q h1 h2 => by
    rw [hd]
    dsimp only
    rw [if_neg (by omega), if_neg (by omega), if_neg (by omega), if_neg (by omega), if_neg (by omega), if_neg (by omega)])
  refine ⟨d, ⟨q.p.2.1, ownsRow_base o1 l0, fun x hx => ?_⟩, i.n1, i.n2, i.n3, ⟨q.t.2.1, ownsRow_base o2 (by omega), fun x hx => ?_⟩, i.n5, RowPart.base s' (by omega), ⟨q.r.2.1, ownsRow_base o4 (by omega), fun x hx => ?_⟩, ⟨q.g.2.1, ownsRow_base o5 (by omega), fun x hx => ?_⟩, ⟨q.e.2.1, ownsRow_base o6 (by omega), fun x hx => ?_⟩, RowPart.base k' (by omega)⟩
  all_goals
    cases hx
    rw [hd]
    dsimp only
  · rw [if_pos (by omega)]
  · rw [if_neg (by omega), if_pos (by omega)]
  · rw [if_neg (by omega), if_neg (by omega), if_neg (by omega), if_pos (by omega)]
  · rw [if_neg (by omega), if_neg (by omega), if_neg (by omega), if_neg (by omega), if_pos (by omega)]
  · rw [if_neg (by omega), if_neg (by omega), if_neg (by omega), if_neg (by omega), if_neg (by omega), if_pos (by omega)]

theorem toHeader_hk (p : Path) (x : HS) (h : Hd) (w : World) (o : hdK.Ok w x h) (m : HSm h) :
    Calls Tryz.prog 51 #[.agg (hvals x h)] w fun e w' => ∃ (y : HS) (d : Nat → Path), e = .returned (.agg (hvals y h)) ∧ hdK.Own w' w.heap.size d p y h ∧ Below w.heap.size w w' :=
  (toHeader_any x h w (hd_ok o) m).mono fun e w' ⟨y, he, ho, hb⟩ => match ho.hk (hd_ok o) (hd_in o) m p with
    | ⟨d, hd⟩ => ⟨y, d, he, hdK.base hd (by omega), hb⟩

theorem toI_kd (p : Path) (s : Sl) (z : List Int) (w : World) (o : IOk w s z) (hl : z.length ≤ 1048576) :
    Calls Tryz.prog 53 #[.slice s.a s.n s.c] w fun e w' => ∃ (t : Sl) (d : Nat → Path), e = .returned (.slice t.a t.n t.c) ∧ intsK.Own w' w.heap.size d p t z ∧ Below w.heap.size w w' := by
  refine (toInt64S_any s.a s.n s.c z w o.row (by have := o.row.1; omega)).mono ?_
  rintro e w' ⟨rfl, h1, h2⟩
  exact ⟨⟨some ⟨w.heap.size, 0, none⟩, s.n, s.n⟩, fun _ => p, rfl, ⟨h1, fun x hx => rfl⟩, h2⟩

def hz11 : List Value := [.slice none 0 0, .int .i64 0, .int .i64 0, .int .i64 0, .slice none 0 0, .int .i64 0, .slice none 0 0, .slice none 0 0, .slice none 0 0, .slice none 0 0, .slice none 0 0]
def ez14 : Array Value := #[.slice none 0 0, .int .i64 0, .int .i64 0, .int .i64 0, .slice none 0 0, .int .i64 0, .slice none 0 0, .slice none 0 0, .slice none 0 0, .slice none 0 0, .slice none 0 0, .slice none 0 0, .int .i64 0, .slice none 0 0]

theorem hvals_one (x : HS) (h : Hd) : (hvals x h).all (·.oneCell') = true := by simp [hvals, Value.oneCell']
theorem evals_one (e : EnS) (x : En) : (evals e x).all (·.oneCell') = true := by simp [evals, Value.oneCell']

theorem Kd.Made.put {α β : Type} {K : Kd α β} {w : World} {n B : Nat} {d : Nat → Path} {p : Path} {e : β} {x : α} (h : K.Made w n B d p e x) {g : Nat} (hq : g < B) (o : Nat) (us : List Value) : K.Made (putRow w g o us) n B d p e x :=
  fun d' hd => K.frame (h d' hd) (fun k _ hk _ => putRow_other us w g o k (by omega))

set_option maxHeartbeats 8000000 in
theorem toEntry_any (p : Path) (e : EnS) (x : En) (w : World) (o : enK.Ok w e x) (m : EnSm x) :
    Calls Tryz.prog 33 #[.agg (evals e x)] w fun r w' => ∃ (e' : EnS) (d : Nat → Path), r = .returned (.agg (evals e' x)) ∧ enK.Own w' w.heap.size d p e' x ∧ Below w.heap.size w w' := by
  obtain ⟨hx, z, up, tt⟩ := x
  obtain ⟨eh, ez, eu, et⟩ := e
  have o1 : hdK.Ok w eh hx := o.1
  have o2 : BOk w ez z := o.2.1
  have o3 : in64 up := o.2.2.1
  have o4 : IOk w et tt := o.2.2.2
  have m1 : HSm hx := m.h
  have m2 : z.length ≤ 1048576 := m.z
  have m4 : tt.length ≤ 1048576 := m.t
  have H1 := hide (fun (W : World) (hb : Below w.heap.size w W) => toHeader_hk (p ++ [0]) eh hx W (hdK.below o1 hb (Nat.le_refl _)) m1)
  have H2 := hide (fun (W : World) (hb : Below w.heap.size w W) => toB_kd (p ++ [1] ++ [0]) ez z W (bytesK.below o2 hb (Nat.le_refl _)) m2)
  have H4 := hide (fun (W : World) (hb : Below w.heap.size w W) => toI_kd (p ++ [1] ++ [1] ++ [1]) et tt W (intsK.below o4 hb (Nat.le_refl _)) m4)
  obtain ⟨k0, k1, k2, K0, hsz⟩ := three_blk w (evals (eh, ez, eu, et) (hx, z, up, tt)) ez14 ez14 65 70 70
  obtain ⟨W0, e0⟩ : ∃ W0, ((w.alloc (.cells (evals (eh, ez, eu, et) (hx, z, up, tt)) 65)).alloc (.cells ez14 70)).alloc (.cells ez14 70) = W0 := ⟨_, rfl⟩
  rw [e0] at k0 k1 k2 K0 hsz
  have HO3 := hide o3
  clear o o1 o2 o3 o4 m m1 m2 m4
  have HL1 : Hid ((Instr.loadAt 63 (.pointer (some ⟨w.heap.size, 0, none⟩))).run Tryz.prog W0 = .ok (.agg (hvals eh hx)) W0) :=
    ld_run (hvals eh hx).toList 63 _ (fun j v hv => by
      rw [Nat.zero_add, k0.cell]
      have hj : j < 11 := (List.getElem?_eq_some_iff.1 hv).1
      match j, hj, hv with
      | 0, _, hv | 1, _, hv | 2, _, hv | 3, _, hv | 4, _, hv | 5, _, hv | 6, _, hv | 7, _, hv | 8, _, hv | 9, _, hv | 10, _, hv => exact hv) Tryz.underlying63 rfl (by kernel_rfl)
  have E0 := hide e0
  unfold ez14 at E0
  clear e0
  unfold evals at E0 ⊢
  dsimp only at E0 ⊢
  go_enter Tryz.func33, Tryz.ntmps33
  go_upto_region 2 with fail
  rw [unhide E0]
  clear E0
  go_wp2_with (refine wpList_load_eq rfl 63 _ rfl _ _ rfl (unhide HL1) ?_)
  refine ((unhide H1) _ K0).mono ?_
  rintro r w1 ⟨y1, d1, rfl, q1, b1⟩
  have k0 := k0.below b1 (by omega)
  have k1 := k1.below b1 (by omega)
  have k2 := k2.below b1 (by omega)
  have K1 := K0.trans (b1.mono (by omega))
  have hs1 : w.heap.size + 3 ≤ w1.heap.size := Nat.le_trans (Nat.le_of_eq hsz.symm) b1.size
  have q1 := Kd.made _ q1
  have r1 := hide (st_run k2 0 (hvals y1 hx).toList 68 (by simp [ez14, hvals]) (by kernel_rfl) (hvals_one _ _))
  obtain ⟨W1, eW1⟩ : ∃ W, putRow w1 (w.heap.size + 2) 0 (hvals y1 hx).toList = W := ⟨_, rfl⟩
  have c0 := k0.putOther (g' := w.heap.size + 2) (by omega) 0 (hvals y1 hx).toList
  have c1 := k1.putOther (g' := w.heap.size + 2) (by omega) 0 (hvals y1 hx).toList
  have c2 := k2.putRow (hvals y1 hx).toList 0
  have C1 := putRow_below (hvals y1 hx).toList w w1 w.heap.size (w.heap.size + 2) 0 K1 (by omega)
  have cz := putRow_size (hvals y1 hx).toList w1 (w.heap.size + 2) 0
  have m1 := q1.put (g := w.heap.size + 2) (by omega) 0 (hvals y1 hx).toList
  rw [eW1] at r1 c0 c1 c2 C1 cz m1
  have R1 := hide r1
  have z0 := c0.cell 11
  simp only [evals, List.getElem?_cons_zero, List.getElem?_cons_succ] at z0
  have Q := hide (And.intro c0 (And.intro c1 (And.intro c2 (And.intro C1 (And.intro m1 (And.intro cz hs1))))))
  clear k0 k1 k2 K0 K1 q1 r1 c0 c1 c2 C1 cz m1 eW1 HL1 H1
  go_wp2_with (refine wpList_store_eq rfl 68 _ _ rfl _ _ rfl rfl _ (unhide R1) ?_)
  obtain ⟨c0, c1, c2, C1, m1, cz, hs1⟩ := unhide Q
  clear Q z0 R1
  refine ((unhide H2) _ C1).mono ?_
  rintro r w2 ⟨y2, d2, rfl, q2, b2⟩
  have n2 : w.heap.size + 3 ≤ W1.heap.size := by omega
  have k0 := c0.below b2 (by omega)
  have k1 := c1.below b2 (by omega)
  have k2 := c2.below b2 (by omega)
  have K2 := C1.trans (b2.mono (by omega))
  have m1 := m1.below b2 (Nat.le_refl _)
  have m2 := Kd.made _ q2
  have hs2 : W1.heap.size ≤ w2.heap.size := b2.size
  have x0 := k0.cell 12
  have x1 := k0.cell 13
  have u0 := k2.cell 11
  have u1 := k2.cell 12
  have f0 := k2.free 11
  have f1 := k2.free 12
  simp only [evals, ez14, hvals, setL, List.set_cons_zero, List.set_cons_succ, List.getElem?_cons_zero, List.getElem?_cons_succ] at x0 x1 u0 u1
  have Q := hide (And.intro k0 (And.intro k1 (And.intro k2 (And.intro K2 (And.intro m1 (And.intro m2 (And.intro hs2 (And.intro n2 (And.intro cz hs1)))))))))
  clear c0 c1 c2 C1 q2 b2 cz hs1 k0 k1 k2 K2 m1 m2 hs2 n2 H2
  go_wp2_with fail
  obtain ⟨k0, k1, k2, K2, m1, m2, hs2, n2, cz, hs1⟩ := unhide Q
  clear Q x0 x1 u0 u1 f0 f1
  have k1 := (k1.other (g' := w.heap.size + 2) (i := 11) (v := .slice y2.a y2.n y2.c) (by omega)).other (g' := w.heap.size + 2) (i := 12) (v := .int .i64 up) (by omega)
  have k2 := (k2.set 11 (.slice y2.a y2.n y2.c)).set 12 (.int .i64 up)
  have K2 := (K2.setCell (p := ⟨w.heap.size + 2, 11, none⟩) (by show w.heap.size ≤ w.heap.size + 2; omega) (.slice y2.a y2.n y2.c)).setCell (p := ⟨w.heap.size + 2, 12, none⟩) (by show w.heap.size ≤ w.heap.size + 2; omega) (.int .i64 up)
  have m1 := (m1.set (q := ⟨w.heap.size + 2, 11, none⟩) (by show w.heap.size + 2 < _; omega) (.slice y2.a y2.n y2.c)).set (q := ⟨w.heap.size + 2, 12, none⟩) (by show w.heap.size + 2 < _; omega) (.int .i64 up)
  have m2 := (m2.set (q := ⟨w.heap.size + 2, 11, none⟩) (by show w.heap.size + 2 < _; omega) (.slice y2.a y2.n y2.c)).set (q := ⟨w.heap.size + 2, 12, none⟩) (by show w.heap.size + 2 < _; omega) (.int .i64 up)
  have hz2 : ((w2.setCell ⟨w.heap.size + 2, 11, none⟩ (.slice y2.a y2.n y2.c)).setCell ⟨w.heap.size + 2, 12, none⟩ (.int .i64 up)).heap.size = w2.heap.size := by rw [size_set', size_set']
  generalize (w2.setCell ⟨w.heap.size + 2, 11, none⟩ (.slice y2.a y2.n y2.c)).setCell ⟨w.heap.size + 2, 12, none⟩ (.int .i64 up) = W2 at k1 k2 K2 m1 m2 hz2 ⊢
  refine ((unhide H4) _ K2).mono ?_
  rintro r w3 ⟨y4, d4, rfl, q4, b4⟩
  have k1 := k1.below b4 (by omega)
  have k2 := k2.below b4 (by omega)
  have K3 := K2.trans (b4.mono (by omega))
  have m1 := m1.below b4 (Nat.le_refl _)
  have m2 := m2.below b4 (Nat.le_refl _)
  have m4 := Kd.made _ q4
  have hs3 : W2.heap.size ≤ w3.heap.size := b4.size
  have u0 := k2.cell 13
  have f0 := k2.free 13
  simp only [evals, ez14, hvals, setL, List.set_cons_zero, List.set_cons_succ, List.getElem?_cons_zero, List.getElem?_cons_succ] at u0
  have Q := hide (And.intro k1 (And.intro k2 (And.intro K3 (And.intro m1 (And.intro m2 (And.intro m4 (And.intro hs3 (And.intro hz2 (And.intro hs2 (And.intro n2 (And.intro cz hs1)))))))))))
  clear k0 k1 k2 K2 m1 m2 m4 hs3 hz2 hs2 n2 cz hs1 K3 q4 b4 H4
  go_upto_region 6 with fail
  obtain ⟨k1, k2, K3, m1, m2, m4, hs3, hz2, hs2, n2, cz, hs1⟩ := unhide Q
  clear Q u0 f0
  have k1 := k1.other (g' := w.heap.size + 2) (i := 13) (v := .slice y4.a y4.n y4.c) (by omega)
  have k2 := k2.set 13 (.slice y4.a y4.n y4.c)
  have K3 := K3.setCell (p := ⟨w.heap.size + 2, 13, none⟩) (by show w.heap.size ≤ w.heap.size + 2; omega) (.slice y4.a y4.n y4.c)
  have m1 := m1.set (q := ⟨w.heap.size + 2, 13, none⟩) (by show w.heap.size + 2 < _; omega) (.slice y4.a y4.n y4.c)
  have m2 := m2.set (q := ⟨w.heap.size + 2, 13, none⟩) (by show w.heap.size + 2 < _; omega) (.slice y4.a y4.n y4.c)
  have m4 := m4.set (q := ⟨w.heap.size + 2, 13, none⟩) (by show w.heap.size + 2 < _; omega) (.slice y4.a y4.n y4.c)
  generalize w3.setCell ⟨w.heap.size + 2, 13, none⟩ (.slice y4.a y4.n y4.c) = W3 at k1 k2 K3 m1 m2 m4 ⊢
  replace k2 : SBlk W3 (w.heap.size + 2) (evals (y1, y2, eu, y4) (hx, z, up, tt)).toList 70 := k2
  have HL := hide (ld_run (g := w.heap.size + 2) (o := 0) (evals (y1, y2, eu, y4) (hx, z, up, tt)).toList 70 _ (fun j v hv => by rw [Nat.zero_add, k2.cell]; exact hv) Tryz.underlying70 rfl (by kernel_rfl))
  have HS := hide (st_run k1 0 (evals (y1, y2, eu, y4) (hx, z, up, tt)).toList 70 (by simp [ez14, evals]) (by kernel_rfl) (evals_one _ _))
  have k1 := k1.putRow (evals (y1, y2, eu, y4) (hx, z, up, tt)).toList 0
  replace k1 : SBlk (putRow W3 (w.heap.size + 1) 0 (evals (y1, y2, eu, y4) (hx, z, up, tt)).toList) (w.heap.size + 1) (evals (y1, y2, eu, y4) (hx, z, up, tt)).toList 70 := k1
  have K3 := putRow_below (evals (y1, y2, eu, y4) (hx, z, up, tt)).toList w W3 w.heap.size (w.heap.size + 1) 0 K3 (by omega)
  have m1 := m1.put (g := w.heap.size + 1) (by omega) 0 (evals (y1, y2, eu, y4) (hx, z, up, tt)).toList
  have m2 := m2.put (g := w.heap.size + 1) (by omega) 0 (evals (y1, y2, eu, y4) (hx, z, up, tt)).toList
  have m4 := m4.put (g := w.heap.size + 1) (by omega) 0 (evals (y1, y2, eu, y4) (hx, z, up, tt)).toList
  obtain ⟨W4, eW4⟩ : ∃ W, putRow W3 (w.heap.size + 1) 0 (evals (y1, y2, eu, y4) (hx, z, up, tt)).toList = W := ⟨_, rfl⟩
  rw [eW4] at HS k1 K3 m1 m2 m4
  have Q := hide (And.intro k1 (And.intro K3 (And.intro m1 (And.intro m2 (And.intro m4 (And.intro hs3 (And.intro hz2 (And.intro hs2 (And.intro n2 (And.intro cz hs1))))))))))
  clear k1 k2 K3 m1 m2 m4 hs3 hz2 hs2 n2 cz hs1 eW4
  have HV : Hid ((evals (y1, y2, eu, y4) (hx, z, up, tt)).toList.toArray = evals (y1, y2, eu, y4) (hx, z, up, tt)) := rfl
  generalize (evals (y1, y2, eu, y4) (hx, z, up, tt)).toList = V at HL HS Q HV
  go_wp2_with (first | (refine wpList_load_eq rfl 70 _ rfl _ _ rfl (unhide HL) ?_) | (refine wpList_store_eq rfl 70 _ _ rfl _ _ rfl rfl _ (unhide HS) ?_))
  obtain ⟨k1, K3, m1, m2, m4, hs3, hz2, hs2, n2, cz, hs1⟩ := unhide Q
  refine bodyPost_ret (results_cell_row rfl _ _ (w.heap.size + 1) 70 _ (0, 0) _ rfl k1 Tryz.underlying70 rfl (by rw [unhide HV]; kernel_rfl)) rfl ⟨(y1, y2, (), y4), joinD W1.heap.size d1 (joinD W2.heap.size d2 d4), ?_, ?_, K3⟩
  · rw [unhide HV]
    rfl
  · refine ⟨hdK.base (m1 _ (fun g h1 h2 => joinD_lt (by omega))) (by omega), bytesK.base (m2 _ (fun g h1 h2 => ?_)) (by omega), unhide HO3, intsK.base (m4 _ (fun g h1 h2 => ?_)) (by omega)⟩
    · rw [joinD_ge (by omega), joinD_lt (by omega)]
    · rw [joinD_ge (by omega), joinD_ge (by omega)]

end Go.Proofs.YtldiilmpmcbjkaaGreatDoor

/- What is proved here: the contract of the laws' helper function that compares slices of slices of bytes (eqByteSS). -/
namespace Go.Proofs.YtldiilmpmcbjkaaGreatDoor
open Go.RowKit
set_option linter.unusedVariables false
set_option maxRecDepth 100000

set_option maxHeartbeats 2000000 in
theorem eqByteSS_any (a b : Option Addr) (la ca lb cb : Nat) (xs ys : List (List Int)) (w : World) (ha : BsRow w a la xs) (hb : BsRow w b lb ys) (hl : la ≤ 1048576) (hl2 : lb ≤ 1048576) (hx : ∀ z ∈ xs, z.length ≤ 1048576) (hy : ∀ z ∈ ys, z.length ≤ 1048576) :
    Calls Tryz.prog 78 #[.slice a la ca, .slice b lb cb] w fun e w' => e = .returned (.bool (sameBs xs ys)) ∧ ∃ n, w' = w.drewN n := by
  have hxl := ha.1
  have hyl := hb.1
  by_cases hne : la = lb
  · subst hne
    have hlen : (((la : Nat) : Int) != ((la : Nat) : Int)) = false := by simp
    rcases Nat.eq_zero_or_pos la with h0 | hp
    · subst h0
      have hx : xs = [] := List.length_eq_zero_iff.1 hxl
      have hy : ys = [] := List.length_eq_zero_iff.1 hyl
      subst hx hy
      clear ha hb
      go_enter Tryz.func78, Tryz.ntmps78
      go_wp2_with fail
      refine wp_loop_rounds 1 ?_
      rw [rounds_succ]
      go_wp2_with fail
      go_ret
      exact ⟨rfl, 0, rfl⟩
    · obtain ⟨ba, oa, rfl, hba, hca⟩ := ha.at hp
      obtain ⟨bb, ob, rfl, hbb, hcb⟩ := hb.at hp
      have HCA := hide hca
      have HCB := hide hcb
      have HX := hide hx
      have HY := hide hy
      have HXL := hide hxl
      have HYL := hide hyl
      clear ha hb hca hcb hx hy hxl hyl
      go_enter Tryz.func78, Tryz.ntmps78
      go_wp2_with fail
      go_loopw [5] (fun i wr => ∃ k n : Nat, k ≤ la ∧ i = .int .i64 k ∧ sameBs xs ys = sameBs (xs.drop k) (ys.drop k) ∧ wr = w.drewN n) (fun i _ => la - (intOf i).toNat)
      case atStart => exact ⟨0, 0, Nat.zero_le _, rfl, by simp, rfl⟩
      case round =>
        obtain ⟨k, n, hk, rfl, hpre, rfl⟩ := hrel
        by_cases hlt : k < la
        · obtain ⟨x, hix⟩ : ∃ z, xs[k]? = some z := ⟨_, List.getElem?_eq_getElem (by rw [unhide HXL]; exact hlt)⟩
          obtain ⟨y, hiy⟩ : ∃ z, ys[k]? = some z := ⟨_, List.getElem?_eq_getElem (by rw [unhide HYL]; exact hlt)⟩
          have hst := sameBs_step xs ys k x y hix hiy
          rw [← hpre] at hst
          obtain ⟨s1, n1, d1, p0, r1⟩ := (unhide HCA) k x hix
          obtain ⟨s2, n2, d2, q0, r2⟩ := (unhide HCB) k y hiy
          have m1 : n1 ≤ 1048576 := by rw [← r1.1]; exact (unhide HX) x (List.mem_of_getElem? hix)
          have m2 : n2 ≤ 1048576 := by rw [← r2.1]; exact (unhide HY) y (List.mem_of_getElem? hiy)
          have HEQ := hide (fun (m : Nat) => eqByteS_any s1 s2 n1 d1 n2 d2 x y (w.drewN m) (r1.below (B := w.heap.size) (below_drewN (Below.refl _ _) m) (Nat.le_refl _)) (r2.below (B := w.heap.size) (below_drewN (Below.refl _ _) m) (Nat.le_refl _)) m1 m2)
          have HP := hide hpre
          have HS := hide hst
          have i1 : (0 : Int) ≤ (k : Int) := by omega
          have i2 : (k : Int) < (la : Int) := by omega
          clear r1 r2 hst hpre hix hiy m1 m2
          generalize sameB x y = sb at HEQ HS
          go_wp2_with fail
          go_region_with (first | (go_at_call 62; refine ((unhide HEQ) (n + 1)).mono ?_; rintro e w1 ⟨rfl, m, rfl⟩))
          all_goals
            cases sb
            · go_wp2_with fail
              go_ret
              exact ⟨ret_bool (by rw [unhide HS]; rfl), _, by first | rfl | exact World.drewN_drewN ..⟩
            · go_wp2_with fail
              go_roundw
              case rel => exact ⟨k + 1, _, by omega, by go_num, by rw [unhide HS]; simp, by first | rfl | exact World.drewN_drewN ..⟩
              case measure => simp [intOf]; omega
        · obtain rfl : k = la := by omega
          have e := sameBs_end xs ys k (unhide HXL) (unhide HYL)
          rw [e] at hpre
          have HE := hide hpre
          clear e hpre
          go_wp2_with fail
          go_ret
          exact ⟨ret_bool (unhide HE).symm, n, rfl⟩
  · have hlen : (((la : Nat) : Int) != ((lb : Nat) : Int)) = true := by simp; omega
    have HE := hide (sameBs_len xs ys (by rw [hxl, hyl]; exact hne))
    clear ha hb hxl hyl
    go_enter Tryz.func78, Tryz.ntmps78
    go_wp2_with fail
    go_ret
    exact ⟨ret_bool (unhide HE).symm, 0, rfl⟩

end Go.Proofs.YtldiilmpmcbjkaaGreatDoor

/- What is proved here: the contract of the laws' helper function eqHeader, for two that are the same: it answers true. -/
namespace Go.Proofs.YtldiilmpmcbjkaaGreatDoor
open Go.RowKit
set_option linter.unusedVariables false
set_option maxRecDepth 100000

theorem ne64 (n : Int) : (n != n) = false := by simp

theorem eqB_yes (a b : Option Addr) (la ca lb cb : Nat) (xs : List Int) (w : World) (ha : BRow w a la xs) (hb : BRow w b lb xs) (hl : xs.length ≤ 1048576) :
    Calls Tryz.prog 62 #[.slice a la ca, .slice b lb cb] w fun e w' => e = .returned (.bool true) ∧ Below w.heap.size w w' :=
  (eqByteS_any a b la ca lb cb xs xs w ha hb (by rw [← ha.1]; exact hl) (by rw [← hb.1]; exact hl)).mono fun e w' ⟨he, n, hw⟩ => ⟨by rw [he, sameB_self], by rw [hw]; exact below_drewN (Below.refl _ _) n⟩

theorem eqBs_yes (a b : Option Addr) (la ca lb cb : Nat) (xs : List (List Int)) (w : World) (ha : BsRow w a la xs) (hb : BsRow w b lb xs) (hl : xs.length ≤ 1048576) (hz : ∀ z ∈ xs, z.length ≤ 1048576) :
    Calls Tryz.prog 78 #[.slice a la ca, .slice b lb cb] w fun e w' => e = .returned (.bool true) ∧ Below w.heap.size w w' :=
  (eqByteSS_any a b la ca lb cb xs xs w ha hb (by rw [← ha.1]; exact hl) (by rw [← hb.1]; exact hl) hz hz).mono fun e w' ⟨he, n, hw⟩ => ⟨by rw [he, sameBs_self], by rw [hw]; exact below_drewN (Below.refl _ _) n⟩

theorem two_blk (w : World) (vs us : Array Value) (T S : TypeId) : SBlk ((w.alloc (.cells vs T)).alloc (.cells us S)) w.heap.size vs.toList T ∧ SBlk ((w.alloc (.cells vs T)).alloc (.cells us S)) (w.heap.size + 1) us.toList S ∧ Below w.heap.size w ((w.alloc (.cells vs T)).alloc (.cells us S)) ∧ ((w.alloc (.cells vs T)).alloc (.cells us S)).heap.size = w.heap.size + 2 := by
  refine ⟨?_, ?_, ((Below.refl _ _).alloc (Nat.le_refl _) _).alloc (by simp) _, by simp⟩
  · exact (SBlk.new w vs T).next _
  · have h := SBlk.new (w.alloc (.cells vs T)) us S
    rwa [show (w.alloc (.cells vs T)).heap.size = w.heap.size + 1 by simp] at h

set_option maxHeartbeats 8000000 in
theorem eqHeader_same (x y : HS) (h : Hd) (w : World) (o : HOk w x h) (q : HOk w y h) (m : HSm h) :
    Calls Tryz.prog 61 #[.agg (hvals x h), .agg (hvals y h)] w fun e w' => e = .returned (.bool true) ∧ Below w.heap.size w w' := by
  have HO := hide (fun (W : World) (hb : Below w.heap.size w W) => o.below hb (Nat.le_refl _))
  have HQ := hide (fun (W : World) (hb : Below w.heap.size w W) => q.below hb (Nat.le_refl _))
  have HM := hide m
  obtain ⟨k0, k1, k2, k3⟩ := two_blk w (hvals x h) (hvals y h) 68 68
  clear o q m
  have hn1 := ne64 h.n1
  have hn2 := ne64 h.n2
  have hn3 := ne64 h.n3
  have hn5 := ne64 h.n5
  unfold hvals at k0 k1 k2 k3 ⊢
  obtain ⟨W0, e0⟩ : ∃ W0, (w.alloc (.cells #[.slice x.p.a x.p.n x.p.c, .int .i64 h.n1, .int .i64 h.n2, .int .i64 h.n3, .slice x.t.a x.t.n x.t.c, .int .i64 h.n5, .slice x.s.a x.s.n x.s.c, .slice x.r.a x.r.n x.r.c, .slice x.g.a x.g.n x.g.c, .slice x.e.a x.e.n x.e.c, .slice x.k.a x.k.n x.k.c] 68)).alloc (.cells #[.slice y.p.a y.p.n y.p.c, .int .i64 h.n1, .int .i64 h.n2, .int .i64 h.n3, .slice y.t.a y.t.n y.t.c, .int .i64 h.n5, .slice y.s.a y.s.n y.s.c, .slice y.r.a y.r.n y.r.c, .slice y.g.a y.g.n y.g.c, .slice y.e.a y.e.n y.e.c, .slice y.k.a y.k.n y.k.c] 68) = W0 := ⟨_, rfl⟩
  rw [e0] at k0 k1 k2 k3
  have hg : w.heap.size + 1 < W0.heap.size := by omega
  go_enter Tryz.func61, Tryz.ntmps61
  have x0 := k0.cell 0
  have y0 := k1.cell 0
  simp only [List.getElem?_cons_zero] at x0 y0
  go_wp2_with (rw [e0])
  clear e0
  refine (eqB_yes _ _ _ _ _ _ h.p _ ((unhide HO) _ k2).p ((unhide HQ) _ k2).p (unhide HM).p).mono ?_
  rintro e w1 ⟨rfl, b1⟩
  have k0 := k0.below b1 k0.lt
  have k1 := k1.below b1 k1.lt
  have k2 := k2.trans (b1.mono k2.size)
  clear b1
  have x1 := k0.cell 1
  have y1 := k1.cell 1
  have x2 := k0.cell 2
  have y2 := k1.cell 2
  have x3 := k0.cell 3
  have y3 := k1.cell 3
  have x4 := k0.cell 4
  have y4 := k1.cell 4
  simp only [List.getElem?_cons_zero, List.getElem?_cons_succ] at x1 y1 x2 y2 x3 y3 x4 y4
  go_wp2_with fail
  refine (eqB_yes _ _ _ _ _ _ h.t _ ((unhide HO) _ k2).t ((unhide HQ) _ k2).t (unhide HM).t).mono ?_
  rintro e w2 ⟨rfl, b2⟩
  have k0 := k0.below b2 k0.lt
  have k1 := k1.below b2 k1.lt
  have k2 := k2.trans (b2.mono k2.size)
  clear b2
  have x5 := k0.cell 5
  have y5 := k1.cell 5
  have x6 := k0.cell 6
  have y6 := k1.cell 6
  simp only [List.getElem?_cons_zero, List.getElem?_cons_succ] at x5 y5 x6 y6
  go_wp2_with fail
  refine (eqBs_yes _ _ _ _ _ _ h.s _ ((unhide HO) _ k2).s ((unhide HQ) _ k2).s (unhide HM).s (unhide HM).sz).mono ?_
  rintro e w3 ⟨rfl, b3⟩
  have k0 := k0.below b3 k0.lt
  have k1 := k1.below b3 k1.lt
  have k2 := k2.trans (b3.mono k2.size)
  clear b3
  have x7 := k0.cell 7
  have y7 := k1.cell 7
  simp only [List.getElem?_cons_zero, List.getElem?_cons_succ] at x7 y7
  go_wp2_with fail
  refine (eqB_yes _ _ _ _ _ _ h.r _ ((unhide HO) _ k2).r ((unhide HQ) _ k2).r (unhide HM).r).mono ?_
  rintro e w4 ⟨rfl, b4⟩
  have k0 := k0.below b4 k0.lt
  have k1 := k1.below b4 k1.lt
  have k2 := k2.trans (b4.mono k2.size)
  clear b4
  have x8 := k0.cell 8
  have y8 := k1.cell 8
  simp only [List.getElem?_cons_zero, List.getElem?_cons_succ] at x8 y8
  go_wp2_with fail
  refine (eqB_yes _ _ _ _ _ _ h.g _ ((unhide HO) _ k2).g ((unhide HQ) _ k2).g (unhide HM).g).mono ?_
  rintro e w5 ⟨rfl, b5⟩
  have k0 := k0.below b5 k0.lt
  have k1 := k1.below b5 k1.lt
  have k2 := k2.trans (b5.mono k2.size)
  clear b5
  have x9 := k0.cell 9
  have y9 := k1.cell 9
  simp only [List.getElem?_cons_zero, List.getElem?_cons_succ] at x9 y9
  go_wp2_with fail
  refine (eqB_yes _ _ _ _ _ _ h.e _ ((unhide HO) _ k2).e ((unhide HQ) _ k2).e (unhide HM).e).mono ?_
  rintro e w6 ⟨rfl, b6⟩
  have k0 := k0.below b6 k0.lt
  have k1 := k1.below b6 k1.lt
  have k2 := k2.trans (b6.mono k2.size)
  clear b6
  have x10 := k0.cell 10
  have y10 := k1.cell 10
  simp only [List.getElem?_cons_zero, List.getElem?_cons_succ] at x10 y10
  go_wp2_with fail
  refine (eqBs_yes _ _ _ _ _ _ h.k _ ((unhide HO) _ k2).k ((unhide HQ) _ k2).k (unhide HM).k (unhide HM).kz).mono ?_
  rintro e w7 ⟨rfl, b7⟩
  have k0 := k0.below b7 k0.lt
  have k1 := k1.below b7 k1.lt
  have k2 := k2.trans (b7.mono k2.size)
  clear b7
  go_wp2_with fail
  go_ret
  exact ⟨rfl, k2⟩

end Go.Proofs.YtldiilmpmcbjkaaGreatDoor

/- What is proved here: the contracts of the laws' helper functions on slices of int64 (eqInt64S), for slices of at most 2^20 numbers. -/
namespace Go.Proofs.YtldiilmpmcbjkaaGreatDoor
open Go.RowKit
set_option linter.unusedVariables false
set_option maxRecDepth 100000

set_option maxHeartbeats 400000 in
theorem eqInt64S_any (a b : Option Addr) (la ca lb cb : Nat) (xs ys : List Int) (w : World) (ha : IRow w a la xs) (hb : IRow w b lb ys) (hl : la ≤ 1048576) (hl2 : lb ≤ 1048576) :
    Calls Tryz.prog 24 #[.slice a la ca, .slice b lb cb] w fun e w' => e = .returned (.bool (sameB xs ys)) ∧ ∃ n, w' = w.drewN n := by
  have hxl := ha.1
  have hyl := hb.1
  by_cases hne : la = lb
  · subst hne
    have hlen : (((la : Nat) : Int) != ((la : Nat) : Int)) = false := by simp
    rcases Nat.eq_zero_or_pos la with h0 | hp
    · subst h0
      have hx : xs = [] := List.length_eq_zero_iff.1 hxl
      have hy : ys = [] := List.length_eq_zero_iff.1 hyl
      subst hx hy
      clear ha hb
      go_enter Tryz.func24, Tryz.ntmps24
      go_wp2
      refine wp_loop_rounds 1 ?_
      rw [rounds_succ]
      go_wp2
      go_ret
      exact ⟨rfl, 0, rfl⟩
    · obtain ⟨ba, oa, rfl, hba, hca⟩ := ha.at hp
      obtain ⟨bb, ob, rfl, hbb, hcb⟩ := hb.at hp
      have HCA := hide hca
      have HCB := hide hcb
      clear ha hb hca hcb
      go_enter Tryz.func24, Tryz.ntmps24
      go_wp2
      go_loopw [5] (fun i wr => ∃ k n : Nat, k ≤ la ∧ i = .int .i64 k ∧ xs.take k = ys.take k ∧ wr = w.drewN n)
        (fun i _ => la - (intOf i).toNat)
      case atStart => exact ⟨0, 0, Nat.zero_le _, rfl, rfl, rfl⟩
      case round =>
        obtain ⟨k, n, hk, rfl, hpre, rfl⟩ := hrel
        by_cases hlt : k < la
        · have h1 : w.cell? ⟨ba, oa + k, none⟩ = some (.int .i64 (xs.getD k 0)) := (unhide HCA) k hlt
          have h2 : w.cell? ⟨bb, ob + k, none⟩ = some (.int .i64 (ys.getD k 0)) := (unhide HCB) k hlt
          have Hs := take_same xs ys k (by omega) (by omega) hpre
          have Hd := take_other xs ys k (by omega) (by omega)
          generalize xs.getD k 0 = x at h1 Hs Hd
          generalize ys.getD k 0 = y at h2 Hs Hd
          have HS := hide Hs
          have HD := hide Hd
          have HP := hide hpre
          have i1 : (0 : Int) ≤ (k : Int) := by omega
          have i2 : (k : Int) < (la : Int) := by omega
          clear Hs Hd hpre hxl hyl
          by_cases hxy : x = y
          · subst hxy
            have HT := hide ((unhide HS) rfl)
            clear HS HD HP
            have ht : (x != x) = false := by simp
            go_wp2
            go_quiet (fail)
            go_wp2
            go_roundw
            case rel => exact ⟨k + 1, _, by omega, by go_num, unhide HT, rfl⟩
            case measure => simp [intOf]; omega
          · have ht : (x != y) = true := by simp [hxy]
            go_wp2
            go_quiet (fail)
            go_wp2
            go_ret
            exact ⟨ret_bool ((unhide HD) hxy).symm, _, World.drewN_drewN ..⟩
        · obtain rfl : k = la := by omega
          have e := take_whole xs ys k hxl hyl hpre
          have HE := hide e
          clear e hpre hxl hyl
          go_wp2
          go_ret
          exact ⟨ret_bool (unhide HE).symm, n, rfl⟩
  · have hlen : (((la : Nat) : Int) != ((lb : Nat) : Int)) = true := by simp; omega
    have e : sameB xs ys = false := by
      unfold sameB
      rw [beq_eq_false_iff_ne]
      intro e; rw [e] at hxl; omega
    have HE := hide e
    clear e
    go_enter Tryz.func24, Tryz.ntmps24
    go_wp2
    go_ret
    exact ⟨ret_bool (unhide HE).symm, 0, rfl⟩

end Go.Proofs.YtldiilmpmcbjkaaGreatDoor

/- What is proved here: the contracts of the laws' helper functions that compare entries and stores, where both are the same (eqEntry, eqEntryS, eqConfig, eqStore). -/
namespace Go.Proofs.YtldiilmpmcbjkaaGreatDoor
open Go.RowKit
set_option linter.unusedVariables false
set_option linter.unusedSimpArgs false
set_option maxRecDepth 100000

/-- A header's cells are the first ones of its entry. -/
theorem ev_hd (e : EnS) (x : En) (j : Nat) (v : Value) (hv : (hvals e.1 x.1).toList[j]? = some v) : (evals e x).toList[j]? = some v := by
  have hj : j < 11 := (List.getElem?_eq_some_iff.1 hv).1
  match j, hj, hv with
  | 0, _, hv | 1, _, hv | 2, _, hv | 3, _, hv | 4, _, hv | 5, _, hv | 6, _, hv | 7, _, hv | 8, _, hv | 9, _, hv | 10, _, hv => exact hv

theorem eqI_yes (a b : Option Addr) (la ca lb cb : Nat) (xs : List Int) (w : World) (ha : IRow w a la xs) (hb : IRow w b lb xs) (hl : xs.length ≤ 1048576) :
    Calls Tryz.prog 24 #[.slice a la ca, .slice b lb cb] w fun e w' => e = .returned (.bool true) ∧ Below w.heap.size w w' :=
  (eqInt64S_any a b la ca lb cb xs xs w ha hb (by rw [← ha.1]; exact hl) (by rw [← hb.1]; exact hl)).mono fun e w' ⟨he, n, hw⟩ => ⟨by rw [he, sameB_self], by rw [hw]; exact below_drewN (Below.refl _ _) n⟩

set_option maxHeartbeats 4000000 in
theorem eqEntry_same (e f : EnS) (x : En) (w : World) (o : enK.Ok w e x) (q : enK.Ok w f x) (m : EnSm x) :
    Calls Tryz.prog 42 #[.agg (evals e x), .agg (evals f x)] w fun r w' => r = .returned (.bool true) ∧ Below w.heap.size w w' := by
  obtain ⟨k0, k1, k2, k3⟩ := two_blk w (evals e x) (evals f x) 70 70
  obtain ⟨W0, e0⟩ : ∃ W0, (w.alloc (.cells (evals e x) 70)).alloc (.cells (evals f x) 70) = W0 := ⟨_, rfl⟩
  rw [e0] at k0 k1 k2 k3
  replace o := enK.below o k2 (Nat.le_refl _)
  replace q := enK.below q k2 (Nat.le_refl _)
  have D1 := hide (eqHeader_same e.1 f.1 x.1 W0 (hd_ok o.1) (hd_ok q.1) m.h)
  have D2 := hide (fun (W : World) (hb : Below W0.heap.size W0 W) => eqB_yes e.2.1.a f.2.1.a e.2.1.n e.2.1.c f.2.1.n f.2.1.c x.2.1 W (BOk.row (bytesK.below o.2.1 hb (Nat.le_refl _))) (BOk.row (bytesK.below q.2.1 hb (Nat.le_refl _))) m.z)
  have D3 := hide (fun (W : World) (hb : Below W0.heap.size W0 W) => eqI_yes e.2.2.2.a f.2.2.2.a e.2.2.2.n e.2.2.2.c f.2.2.2.n f.2.2.2.c x.2.2.2 W (IOk.row (intsK.below o.2.2.2 hb (Nat.le_refl _))) (IOk.row (intsK.below q.2.2.2 hb (Nat.le_refl _))) m.t)
  have HLa : Hid ((Instr.loadAt 68 (.pointer (some ⟨w.heap.size, 0, none⟩))).run Tryz.prog W0 = .ok (.agg (hvals e.1 x.1)) W0) :=
    ld_run (hvals e.1 x.1).toList 68 _ (fun j v hv => by rw [Nat.zero_add, k0.cell]; exact ev_hd e x j v hv) Tryz.underlying68 rfl (by kernel_rfl)
  have HLb : Hid ((Instr.loadAt 68 (.pointer (some ⟨w.heap.size + 1, 0, none⟩))).run Tryz.prog W0 = .ok (.agg (hvals f.1 x.1)) W0) :=
    ld_run (hvals f.1 x.1).toList 68 _ (fun j v hv => by rw [Nat.zero_add, k1.cell]; exact ev_hd f x j v hv) Tryz.underlying68 rfl (by kernel_rfl)
  have HK0 := hide (fun (W : World) (hb : Below W0.heap.size W0 W) => k0.below hb k0.lt)
  have HK1 := hide (fun (W : World) (hb : Below W0.heap.size W0 W) => k1.below hb k1.lt)
  have HB0 := hide k2
  have hne := ne64 x.2.2.1
  have E0 := hide e0
  clear e0 o q m k0 k1 k2 k3
  generalize hvals e.1 x.1 = V1 at HLa D1
  generalize hvals f.1 x.1 = V2 at HLb D1
  unfold evals at E0 HK0 HK1 ⊢
  go_enter Tryz.func42, Tryz.ntmps42
  go_upto_region 1 with fail
  rw [unhide E0]
  clear E0
  go_wp2_with (first | (refine wpList_load_eq rfl 68 _ rfl _ _ rfl (unhide HLa) ?_) | (refine wpList_load_eq rfl 68 _ rfl _ _ rfl (unhide HLb) ?_))
  refine (unhide D1).mono ?_
  rintro r w1 ⟨rfl, b1⟩
  have x1 := ((unhide HK0) w1 b1).cell 11
  have y1 := ((unhide HK1) w1 b1).cell 11
  simp only [List.getElem?_cons_zero, List.getElem?_cons_succ] at x1 y1
  have D2' := hide ((unhide D2) w1 b1)
  have B1 := hide b1
  clear b1 D2
  go_wp2_with fail
  refine (unhide D2').mono ?_
  rintro r w2 ⟨rfl, b2⟩
  have B2 := hide ((unhide B1).trans (b2.mono (unhide B1).size))
  have x2 := ((unhide HK0) w2 (unhide B2)).cell 12
  have y2 := ((unhide HK1) w2 (unhide B2)).cell 12
  have x3 := ((unhide HK0) w2 (unhide B2)).cell 13
  have y3 := ((unhide HK1) w2 (unhide B2)).cell 13
  simp only [List.getElem?_cons_zero, List.getElem?_cons_succ] at x2 y2 x3 y3
  have D3' := hide ((unhide D3) w2 (unhide B2))
  clear b2 D3 x1 y1
  go_wp2_with fail
  refine (unhide D3').mono ?_
  rintro r w3 ⟨rfl, b3⟩
  have B3 := hide ((unhide B2).trans (b3.mono (unhide B2).size))
  clear b3
  go_wp2_with fail
  go_ret
  exact ⟨rfl, (unhide HB0).trans ((unhide B3).mono (unhide HB0).size)⟩

set_option maxHeartbeats 4000000 in
theorem eqEntryS_same (s t : Sl) (xs : List En) (w : World) (o : RowOk enK w s xs) (q : RowOk enK w t xs) (hl : xs.length ≤ 1048576) (hz : ∀ x ∈ xs, EnSm x) :
    Calls Tryz.prog 26 #[.slice s.a s.n s.c, .slice t.a t.n t.c] w fun r w' => r = .returned (.bool true) ∧ Below w.heap.size w w' := by
  obtain ⟨a, n, c⟩ := s
  obtain ⟨b, n', c'⟩ := t
  have h1 : n = xs.length := o.len
  have h2 : n' = xs.length := q.len
  obtain rfl : n' = n := by omega
  have hne : ((n' : Int) != (n' : Int)) = false := by simp
  rcases Nat.eq_zero_or_pos n' with h0 | hp
  · subst h0
    clear o q hl hz h1 h2 hne
    go_enter Tryz.func26, Tryz.ntmps26
    go_wp2_with fail
    refine wp_loop_rounds 1 ?_
    rw [rounds_succ]
    go_wp2_with fail
    go_ret
    exact ⟨rfl, Below.refl _ _⟩
  · obtain ⟨b1, o1, rfl, l1, c1⟩ := o.pos hp
    obtain ⟨b2, o2, rfl, l2, c2⟩ := q.pos hp
    have H1 := hide (fun (W : World) (hbl : Below w.heap.size w W) (i : Nat) (x : En) (hx : xs[i]? = some x) => match c1 i x hx with | ⟨e, c, o⟩ => (⟨e, fun j v hv => (hbl.cell (p := ⟨b1, o1 + i * 14 + j, none⟩) l1).trans (c j v hv), enK.below o hbl (Nat.le_refl _)⟩ : ∃ e : EnS, (∀ j v, (evals e x).toList[j]? = some v → W.cell? ⟨b1, o1 + i * 14 + j, none⟩ = some v) ∧ enK.Ok W e x))
    have H2 := hide (fun (W : World) (hbl : Below w.heap.size w W) (i : Nat) (x : En) (hx : xs[i]? = some x) => match c2 i x hx with | ⟨e, c, o⟩ => (⟨e, fun j v hv => (hbl.cell (p := ⟨b2, o2 + i * 14 + j, none⟩) l2).trans (c j v hv), enK.below o hbl (Nat.le_refl _)⟩ : ∃ e : EnS, (∀ j v, (evals e x).toList[j]? = some v → W.cell? ⟨b2, o2 + i * 14 + j, none⟩ = some v) ∧ enK.Ok W e x))
    have HL := hide h1
    have HZ := hide hz
    have hla : n' ≤ 1048576 := by omega
    clear o q c1 c2 h1 h2 hz hl
    go_enter Tryz.func26, Tryz.ntmps26
    go_wp2_with fail
    go_loopw [5] (fun i wr => ∃ (k : Nat), k ≤ n' ∧ i = .int .i64 k ∧ Below w.heap.size w wr) (fun i _ => n' - (intOf i).toNat)
    case atStart => exact ⟨0, Nat.zero_le _, rfl, Below.refl _ _⟩
    case round =>
      obtain ⟨k, hk, rfl, hbr⟩ := hrel
      by_cases hlt : k < n'
      · have hkx : k < xs.length := by rw [← unhide HL]; exact hlt
        obtain ⟨x, hx⟩ : ∃ x, xs[k]? = some x := ⟨_, List.getElem?_eq_getElem hkx⟩
        have mx := (unhide HZ) x (List.mem_of_getElem? hx)
        obtain ⟨e, c, oe⟩ := (unhide H1) wr hbr k x hx
        obtain ⟨f, d, of'⟩ := (unhide H2) wr hbr k x hx
        have HLa : Hid (∀ W, Below wr.heap.size wr W → (Instr.loadAt 70 (.pointer (some ⟨b1, o1 + k * 14, none⟩))).run Tryz.prog W = .ok (.agg (evals e x)) W) := fun W hbl =>
          ld_run (evals e x).toList 70 _ (fun j v hv => (hbl.cell (p := ⟨b1, o1 + k * 14 + j, none⟩) (lt_of_cell (c j v hv))).trans (c j v hv)) Tryz.underlying70 rfl (by kernel_rfl)
        have HLb : Hid (∀ W, Below wr.heap.size wr W → (Instr.loadAt 70 (.pointer (some ⟨b2, o2 + k * 14, none⟩))).run Tryz.prog W = .ok (.agg (evals f x)) W) := fun W hbl =>
          ld_run (evals f x).toList 70 _ (fun j v hv => (hbl.cell (p := ⟨b2, o2 + k * 14 + j, none⟩) (lt_of_cell (d j v hv))).trans (d j v hv)) Tryz.underlying70 rfl (by kernel_rfl)
        have HD := hide (fun (W : World) (hbl : Below wr.heap.size wr W) => eqEntry_same e f x W (enK.below oe hbl (Nat.le_refl _)) (enK.below of' hbl (Nat.le_refl _)) mx)
        have HB := hide hbr
        have i1 : (0 : Int) ≤ (k : Int) := by omega
        have i2 : (k : Int) < (n' : Int) := by omega
        clear hbr c d oe of' hx mx hkx
        generalize evals e x = V1 at HLa HD
        generalize evals f x = V2 at HLb HD
        go_upto_region 6 with fail
        refine wp_region_held_drew (S := (fun W => Below wr.heap.size wr W)) (by kernel_rfl) ((Below.refl wr.heap.size wr).drew) (fun hHeld => ?_)
        refine wpAnyH_take (i := 0) (oi := _) (v := ?_) rfl (by kernel_rfl) (by kernel_rfl) (by kernel_rfl) (fun _ _ _ h => h) (Or.inl ⟨by rfl, ?_⟩) (by assumption) ?_
        rotate_left
        · ((intro wq hSw; (try dsimp only at hSw); go_simp) <;> with_reducible rfl)
        try dsimp only
        refine wpAnyH_take (i := 1) (oi := _) (v := ?_) rfl (by kernel_rfl) (by kernel_rfl) (by kernel_rfl) (fun _ _ _ h => h) (Or.inl ⟨by rfl, ?_⟩) (by assumption) ?_
        rotate_left
        · ((intro wq hSw; (try dsimp only at hSw); go_simp) <;> with_reducible rfl)
        try dsimp only
        refine wpAnyH_take (i := 2) (oi := _) (v := ?_) rfl (by kernel_rfl) (by kernel_rfl) (by kernel_rfl) (fun _ _ _ h => h) (Or.inl ⟨by rfl, ?_⟩) (by assumption) ?_
        rotate_left
        · ((intro wq hSw; (try dsimp only at hSw); go_simp) <;> with_reducible rfl)
        try dsimp only
        refine wpAnyH_take (i := 3) (oi := _) (v := .agg V1) rfl (by kernel_rfl) (by kernel_rfl) (by kernel_rfl) (fun _ _ _ h => h) (Or.inl ⟨by rfl, ?_⟩) (by assumption) ?_
        · (intro wq hSw; (try dsimp only at hSw); refine exec_load rfl ?_ ((unhide HLa) wq hSw); go_simp)
        try dsimp only
        refine wpAnyH_take (i := 4) (oi := _) (v := ?_) rfl (by kernel_rfl) (by kernel_rfl) (by kernel_rfl) (fun _ _ _ h => h) (Or.inl ⟨by rfl, ?_⟩) (by assumption) ?_
        rotate_left
        · ((intro wq hSw; (try dsimp only at hSw); go_simp) <;> with_reducible rfl)
        try dsimp only
        refine wpAnyH_take (i := 5) (oi := _) (v := ?_) rfl (by kernel_rfl) (by kernel_rfl) (by kernel_rfl) (fun _ _ _ h => h) (Or.inl ⟨by rfl, ?_⟩) (by assumption) ?_
        rotate_left
        · ((intro wq hSw; (try dsimp only at hSw); go_simp) <;> with_reducible rfl)
        try dsimp only
        refine wpAnyH_take (i := 6) (oi := _) (v := ?_) rfl (by kernel_rfl) (by kernel_rfl) (by kernel_rfl) (fun _ _ _ h => h) (Or.inl ⟨by rfl, ?_⟩) (by assumption) ?_
        rotate_left
        · ((intro wq hSw; (try dsimp only at hSw); go_simp) <;> with_reducible rfl)
        try dsimp only
        refine wpAnyH_take (i := 7) (oi := _) (v := .agg V2) rfl (by kernel_rfl) (by kernel_rfl) (by kernel_rfl) (fun _ _ _ h => h) (Or.inl ⟨by rfl, ?_⟩) (by assumption) ?_
        · (intro wq hSw; (try dsimp only at hSw); refine exec_load rfl ?_ ((unhide HLb) wq hSw); go_simp)
        try dsimp only
        refine wpAnyH_ready (rs := [8]) (by kernel_rfl) (by simp) ?_
        refine AllReadyH.cons (o := _) rfl (fun K hK => ?_) AllReadyH.nil
        go_simp
        go_at_call 42
        refine ((unhide HD) _ hHeld).mono ?_
        rintro r w2 ⟨rfl, b2⟩
        refine hK.out _ _ (hHeld.trans (b2.mono hHeld.size)) (fun hHeld => ?_)
        clear hK K
        try dsimp only
        refine wpAnyH_take (i := 9) (oi := _) (v := ?_) rfl (by kernel_rfl) (by kernel_rfl) (by kernel_rfl) (fun _ _ _ h => h) (Or.inl ⟨by rfl, ?_⟩) (by assumption) ?_
        rotate_left
        · ((intro wq hSw; (try dsimp only at hSw); go_simp) <;> with_reducible rfl)
        try dsimp only
        refine wpAnyH_done (by kernel_rfl) ?_ _
        have HB2 := hide ((unhide HB).trans (hHeld.mono (unhide HB).size))
        clear b2 hHeld
        go_wp2_with fail
        go_roundw
        case rel => exact ⟨k + 1, by omega, by go_num, unhide HB2⟩
        case measure => simp [intOf]; omega
      · obtain rfl : k = n' := by omega
        have HB := hide hbr
        clear hbr
        go_wp2_with fail
        go_ret
        exact ⟨rfl, unhide HB⟩

theorem eqConfig_same (c : Cf) (w : World) : Calls Tryz.prog 25 #[.agg (cfvals c), .agg (cfvals c)] w fun r w' => r = .returned (.bool true) ∧ Below w.heap.size w w' := by
  have n0 := ne64 c.1
  have n1 := ne64 c.2.1
  have n2 := ne64 c.2.2
  have hbel : ∀ o p, Below w.heap.size w ((w.alloc o).alloc p) := fun o p => ((Below.refl _ _).alloc (Nat.le_refl _) o).alloc (by simp) p
  unfold cfvals
  go_enter Tryz.func25, Tryz.ntmps25
  go_wp2_with fail
  go_ret
  exact ⟨rfl, hbel _ _⟩

set_option maxHeartbeats 4000000 in
theorem eqStore_same (s t : Sl) (x : St) (w : World) (o : RowOk enK w s x.2) (q : RowOk enK w t x.2) (m : StSm x) :
    Calls Tryz.prog 9 #[.agg (tvals s x), .agg (tvals t x)] w fun r w' => r = .returned (.bool true) ∧ Below w.heap.size w w' := by
  obtain ⟨k0, k1, k2, k3⟩ := two_blk w (tvals s x) (tvals t x) 35 35
  obtain ⟨W0, e0⟩ : ∃ W0, (w.alloc (.cells (tvals s x) 35)).alloc (.cells (tvals t x) 35) = W0 := ⟨_, rfl⟩
  rw [e0] at k0 k1 k2 k3
  have D1 := hide (eqConfig_same x.1 W0)
  have D2 := hide (fun (W : World) (hb : Below W0.heap.size W0 W) => eqEntryS_same s t x.2 W (RowOk.below (RowOk.below o k2 (Nat.le_refl _)) hb (Nat.le_refl _)) (RowOk.below (RowOk.below q k2 (Nat.le_refl _)) hb (Nat.le_refl _)) m.n m.e)
  have HK0 := hide (fun (W : World) (hb : Below W0.heap.size W0 W) => k0.below hb k0.lt)
  have HK1 := hide (fun (W : World) (hb : Below W0.heap.size W0 W) => k1.below hb k1.lt)
  have HB0 := hide k2
  unfold tvals at k0 k1 HK0 HK1 e0 ⊢
  have x0 := k0.cell 0
  have x1 := k0.cell 1
  have x2 := k0.cell 2
  have y0 := k1.cell 0
  have y1 := k1.cell 1
  have y2 := k1.cell 2
  simp only [List.getElem?_cons_zero, List.getElem?_cons_succ] at x0 x1 x2 y0 y1 y2
  have E0 := hide e0
  clear e0 o q m k0 k1 k2 k3
  unfold cfvals at D1
  go_enter Tryz.func9, Tryz.ntmps9
  go_upto_region 1 with fail
  rw [unhide E0]
  clear E0
  go_wp2_with fail
  refine (unhide D1).mono ?_
  rintro r w1 ⟨rfl, b1⟩
  have x3 := ((unhide HK0) w1 b1).cell 3
  have y3 := ((unhide HK1) w1 b1).cell 3
  simp only [List.getElem?_cons_zero, List.getElem?_cons_succ] at x3 y3
  have D2' := hide ((unhide D2) w1 b1)
  have B1 := hide b1
  clear b1 D2
  go_wp2_with fail
  refine (unhide D2').mono ?_
  rintro r w2 ⟨rfl, b2⟩
  have B2 := hide ((unhide B1).trans (b2.mono (unhide B1).size))
  clear b2
  go_wp2_with fail
  go_ret
  exact ⟨rfl, (unhide HB0).trans ((unhide B2).mono (unhide HB0).size)⟩

end Go.Proofs.YtldiilmpmcbjkaaGreatDoor

/- What is proved here: what the model's l1Same and the program's SameBytes answer: whether two slices are the same as strings. -/
namespace Go.Proofs.YtldiilmpmcbjkaaGreatDoor
open Go.RowKit
set_option linter.unusedVariables false
set_option maxRecDepth 100000

theorem l1Same_any (a b : Option Addr) (la ca lb cb : Nat) (xs ys : List Int) (w : World) (ha : BRow w a la xs) (hb : BRow w b lb ys) :
    Calls Tryz.prog 65 #[.slice a la ca, .slice b lb cb] w fun e w' => e = .returned (.bool (strEq xs ys)) ∧ w' = w := by
  have h1 := conv_any (P := Tryz.prog) w 60 5 9 Tryz.underlying60 Tryz.underlying5 Tryz.underlying9 a la ca xs ha
  have h2 := conv_any (P := Tryz.prog) w 60 5 9 Tryz.underlying60 Tryz.underlying5 Tryz.underlying9 b lb cb ys hb
  clear ha hb
  go_enter Tryz.func65, Tryz.ntmps65
  go_wp2
  go_ret
  exact ⟨rfl, rfl⟩

theorem implSame_any (a b : Option Addr) (la ca lb cb : Nat) (xs ys : List Int) (w : World) (ha : BRow w a la xs) (hb : BRow w b lb ys) :
    Calls Tryz.prog 72 #[.slice a la ca, .slice b lb cb] w fun e w' => e = .returned (.bool (strEq xs ys)) ∧ w' = w := by
  have h1 := conv_any (P := Tryz.prog) w 60 5 9 Tryz.underlying60 Tryz.underlying5 Tryz.underlying9 a la ca xs ha
  have h2 := conv_any (P := Tryz.prog) w 60 5 9 Tryz.underlying60 Tryz.underlying5 Tryz.underlying9 b lb cb ys hb
  clear ha hb
  go_enter Tryz.func72, Tryz.ntmps72
  go_wp2
  go_ret
  exact ⟨rfl, rfl⟩

end Go.Proofs.YtldiilmpmcbjkaaGreatDoor

/- What is proved here: two lists of bytes are the same as strings just where they are the same. -/
namespace Go.Proofs.YtldiilmpmcbjkaaGreatDoor
open Go.RowKit
set_option linter.unusedVariables false
set_option maxRecDepth 100000

theorem byteList_loop (bs : ByteArray) (i : Nat) (r : List UInt8) : ByteArray.toList.loop bs i r = r.reverse ++ bs.data.toList.drop i := by
  have hsz : bs.size = bs.data.toList.length := by cases bs; rfl
  induction h : bs.size - i generalizing i r with
  | zero =>
    unfold ByteArray.toList.loop
    have : bs.size ≤ i := by omega
    rw [if_neg (by omega), List.drop_eq_nil_of_le (by omega)]
    simp
  | succ n ih =>
    unfold ByteArray.toList.loop
    have hi : i < bs.size := by omega
    rw [if_pos hi, ih (i+1) _ (by omega)]
    have hi' : i < bs.data.toList.length := by omega
    rw [List.drop_eq_getElem_cons hi', List.reverse_cons, List.append_assoc]
    congr 1
    show _ :: _ = _ :: _
    congr 1
    cases bs with
    | mk d =>
      show d[i]! = d.toList[i]
      have hd : i < d.size := by simpa using hi'
      rw [getElem!_pos d i hd, Array.getElem_toList]

theorem byteList_data (bs : ByteArray) : bs.toList = bs.data.toList := by
  unfold ByteArray.toList
  rw [byteList_loop]; rfl

theorem strEq_dec {xs ys : List Int} (hx : ∀ x ∈ xs, 0 ≤ x ∧ x ≤ 255) (hy : ∀ y ∈ ys, 0 ≤ y ∧ y ≤ 255) : strEq xs ys = decide (xs = ys) := by
  unfold strEq
  rw [byteList_data, byteList_data, strOfNums_data, strOfNums_data]
  by_cases e : xs = ys
  · subst e; simp
  · rw [decide_eq_false e, beq_eq_false_iff_ne]
    intro h
    apply e
    have inj : ∀ (a b : List Int), (∀ x ∈ a, 0 ≤ x ∧ x ≤ 255) → (∀ x ∈ b, 0 ≤ x ∧ x ≤ 255) → a.map (fun n => UInt8.ofNat n.toNat) = b.map (fun n => UInt8.ofNat n.toNat) → a = b := by
      intro a
      induction a with
      | nil => intro b _ _ h; cases b with
        | nil => rfl
        | cons y t => simp at h
      | cons x r ih =>
        intro b ha hb h
        cases b with
        | nil => simp at h
        | cons y t =>
          rw [List.map_cons, List.map_cons, List.cons.injEq] at h
          have h1 := ha x (by simp)
          have h2 := hb y (by simp)
          have e1 : x.toNat = y.toNat := by
            have q := congrArg UInt8.toNat h.1
            simp only [UInt8.toNat_ofNat'] at q
            omega
          rw [show x = y by omega, ih t (fun z hz => ha z (by simp [hz])) (fun z hz => hb z (by simp [hz])) h.2]
    exact inj xs ys hx hy h

end Go.Proofs.YtldiilmpmcbjkaaGreatDoor
