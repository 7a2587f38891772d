/- What is proved here: plain facts on what a call made, path by path, and the contracts of the laws' helper functions that copy bytes and lists of them, told by kinds. -/
import Derived.Test.YtioifgbnninmjaaGreatDoorJ6
import Derived.Test.YtioifgbnninmjaaGreatDoorJ4
import Derived.Test.YtioifgbnninmjaaGreatDoorChecked
import Derived.Test.YtioifgbnninmjaaGreatDoorJ1
import Derived.Test.YtioifgbnninmjaaGreatDoorJ13
import Derived.WalkKit
import Derived.BigQuiet
import Derived.Deep.QuietTactic
import Derived.KernelRfl
import Derived.WalkSpells
import Derived.Test.YtioifgbnninmjaaGreatDoorJ14
import Derived.WalkLawsBesides
import Derived.WalkSmall
import Derived.Test.YtioifgbnninmjaaGreatDoorJ2
import Derived.Test.YtioifgbnninmjaaGreatDoorJ3
import Derived.Deep.RegionWith
import Derived.Deep.DeepCutAuto
namespace Go.Proofs.YtioifgbnninmjaaGreatDoor
open Go.RowKit
set_option linter.unusedVariables false
set_option maxRecDepth 100000

/-- What was made, with whatever colours stand elsewhere. -/
def Kd.Made {α β : Type} (K : Kd α β) (w : World) (n B : Nat) (d : Nat → Path) (p : Path) (e : β) (x : α) : Prop := ∀ d' : Nat → Path, (∀ g, B ≤ g → g < n → d' g = d g) → K.Own w B d' p e x

theorem Kd.made {α β : Type} (K : Kd α β) {w : World} {B : Nat} {d : Nat → Path} {p : Path} {e : β} {x : α} (h : K.Own w B d p e x) : K.Made w w.heap.size B d p e x := fun d' hd => K.recol h (fun g h1 h2 _ => hd g h2 h1)

theorem Kd.Made.below {α β : Type} {K : Kd α β} {w w' : World} {n B C : Nat} {d : Nat → Path} {p : Path} {e : β} {x : α} (h : K.Made w n B d p e x) (hb : Below C w w') (hC : w.heap.size ≤ C) : K.Made w' n B d p e x := fun d' hd => K.ownBelow (h d' hd) hb hC

theorem Kd.ownSet {α β : Type} (K : Kd α β) {w : World} {B : Nat} {d : Nat → Path} {p : Path} {e : β} {x : α} (h : K.Own w B d p e x) {q : Addr} (hq : q.block < B) (v : Value) : K.Own (w.setCell q v) B d p e x :=
  K.frame h (fun g _ hg _ => heap_setCell_other w q g v (fun e => by omega))

theorem Kd.Made.set {α β : Type} {K : Kd α β} {w : World} {n B : Nat} {d : Nat → Path} {p : Path} {e : β} {x : α} (h : K.Made w n B d p e x) {q : Addr} (hq : q.block < B) (v : Value) : K.Made (w.setCell q v) n B d p e x := fun d' hd => K.ownSet (h d' hd) hq v

theorem Kd.Made.get {α β : Type} {K : Kd α β} {w : World} {n B : Nat} {d : Nat → Path} {p : Path} {e : β} {x : α} (h : K.Made w n B d p e x) : K.Own w B d p e x := h d (fun _ _ _ => rfl)

theorem toB_kd (p : Path) (s : Sl) (z : List Int) (w : World) (o : BOk w s z) (hl : z.length ≤ 1048576) :
    Calls Tryz.prog 23 #[.slice s.a s.n s.c] w fun e w' => ∃ (t : Sl) (d : Nat → Path), e = .returned (.slice t.a t.n t.c) ∧ bytesK.Own w' w.heap.size d p t z ∧ Below w.heap.size w w' := by
  refine (toByteS_any s.a s.n s.c z w o.row (by have := o.row.1; omega)).mono ?_
  rintro e w' ⟨rfl, h1, h2⟩
  exact ⟨⟨some ⟨w.heap.size, 0, none⟩, s.n, s.n⟩, fun _ => p, rfl, ⟨o.row.2.1, h1, fun x hx => rfl⟩, h2⟩

theorem strict_inj {f : Nat → Nat} {k : Nat} (h : ∀ i j, i < j → j < k → f i < f j) {i j : Nat} (hi : i < k) (hj : j < k) (e : f i = f j) : i = j := by
  rcases Nat.lt_trichotomy i j with h' | h' | h'
  · have := h i j h' hj; omega
  · exact h'
  · have := h j i h' hi; omega

open Classical in
theorem row_of_obss {w : World} {g B : Nat} {zss : List (List Int)} {C : Nat} (h : OBss w g zss 36 C) (hB : B ≤ g) (hr : ∀ z ∈ zss, ∀ x ∈ z, 0 ≤ x ∧ x ≤ 255) (hl : zss.length ≤ 1048576) (p : Path) : ∃ d : Nat → Path, RowOwn bytesK 36 w B d p ⟨some ⟨g, 0, none⟩, zss.length, zss.length⟩ zss := by
  obtain ⟨vs, f, h1, h2, h3, h4, h5⟩ := h
  obtain ⟨d, hd⟩ : ∃ d : Nat → Path, d = fun q => if hq : ∃ i, i < zss.length ∧ f i = q then p ++ [hq.choose] else p := ⟨_, rfl⟩
  have dg : d g = p := by
    rw [hd]
    refine dif_neg ?_
    rintro ⟨i, hi, e⟩
    have := (h3 i hi).1
    omega
  have df : ∀ i, i < zss.length → d (f i) = p ++ [i] := by
    intro i hi
    have hq : ∃ j, j < zss.length ∧ f j = f i := ⟨i, hi, rfl⟩
    rw [hd]
    show (if hq : ∃ j, j < zss.length ∧ f j = f i then p ++ [hq.choose] else p) = _
    rw [dif_pos hq, strict_inj h4 hq.choose_spec.1 hi hq.choose_spec.2]
  obtain ⟨es, he1, he2⟩ : ∃ es : List Sl, es.length = zss.length ∧ ∀ (i : Nat) (e : Sl), es[i]? = some e → ∃ z, zss[i]? = some z ∧ e = ⟨some ⟨f i, 0, none⟩, z.length, z.length⟩ := by
    refine ⟨zss.zipIdx.map (fun q => ⟨some ⟨f q.2, 0, none⟩, q.1.length, q.1.length⟩), by simp, fun i e he => ?_⟩
    rw [List.getElem?_map, List.getElem?_zipIdx] at he
    cases hz : zss[i]? with
    | none => rw [hz] at he; simp at he
    | some z =>
      rw [hz] at he
      simp at he
      exact ⟨z, rfl, he.symm⟩
  refine ⟨d, rfl, es, vs, he1, ⟨h2.trans (Nat.mul_one _).symm, by show zss.length ≤ maxLen; unfold maxLen; omega, Nat.le_refl _, (fun e => by cases e), fun x hx => ?_⟩, fun x hx => by cases hx; exact dg, fun i e z he hz => ?_⟩
  · cases hx
    refine ⟨g, 0, vs.toArray, rfl, hB, h1, by simp [h2, bytesK], ?_⟩
    show (vs.drop 0).take (zss.length * 1) = vs
    rw [List.drop_zero, Nat.mul_one, ← h2, List.take_length]
  · have hi := (List.getElem?_eq_some_iff.1 hz).1
    obtain ⟨z', hz', rfl⟩ := he2 i e he
    obtain rfl : z = z' := Option.some.inj (hz.symm.trans hz')
    obtain ⟨q1, q2⟩ := h5 i z hi hz
    refine ⟨fun j v hv => ?_, hr z (List.mem_of_getElem? hz), ownsRow_base q2 (by omega), fun x hx => by cases hx; exact df i hi⟩
    match j, hv with
    | 0, hv =>
      simp only [bytesK, List.getElem?_cons_zero, Option.some.injEq] at hv
      subst hv
      have e1 : bytesK.m = 1 := rfl
      rw [e1, Nat.mul_one, Nat.add_zero]
      exact q1

theorem toBs_kd (p : Path) (s : Sl) (zss : List (List Int)) (w : World) (o : RowOk bytesK w s zss) (hl : zss.length ≤ 1048576) (hz : ∀ z ∈ zss, z.length ≤ 1048576) :
    Calls Tryz.prog 48 #[.slice s.a s.n s.c] w fun e w' => ∃ (t : Sl) (d : Nat → Path), e = .returned (.slice t.a t.n t.c) ∧ (rowK bytesK 36).Own w' w.heap.size d p t zss ∧ Below w.heap.size w w' := by
  have hb := bs_of_row o
  refine (toByteSS_any s.a s.n s.c zss w hb (by have := o.len; omega) hz).mono ?_
  rintro e w' ⟨rfl, h1, h2⟩
  obtain ⟨d, hd⟩ := row_of_obss h1 (Nat.le_refl _) hb.bytes hl p
  have e1 : s.n = zss.length := o.len
  refine ⟨⟨some ⟨w.heap.size, 0, none⟩, zss.length, zss.length⟩, d, by rw [e1], hd, h2⟩

end Go.Proofs.YtioifgbnninmjaaGreatDoor

/- What is proved here: the contracts of the laws' helper functions on slices of int64 (toInt64S), for slices of at most 2^20 numbers. -/
namespace Go.Proofs.YtioifgbnninmjaaGreatDoor
open Go.RowKit
set_option linter.unusedVariables false
set_option maxRecDepth 100000

set_option maxHeartbeats 400000 in
theorem toInt64S_any (a : Option Addr) (len cap : Nat) (zs : List Int) (w : World) (h : IRow w a len zs) (hl : len ≤ 1048576) :
    Calls Tryz.prog 100 #[.slice a len cap] w fun e w' => e = .returned (.slice (some ⟨w.heap.size, 0, none⟩) len len) ∧
      w'.ownsRow w.heap.size 2 1 (.slice (some ⟨w.heap.size, 0, none⟩) len len) len (zs.map (Value.int .i64)) ∧ Below w.heap.size w w' := by
  obtain ⟨i0, hi, hz0, hz1, hz2⟩ := info_parts info2
  rcases Nat.eq_zero_or_pos len with h0 | hp
  · subst h0
    have hzs : zs = [] := List.length_eq_zero_iff.1 h.1
    subst hzs
    clear h hl
    go_enter Tryz.func100, Tryz.ntmps100
    go_wp2_with (at_make; refine wpList_make_full _ rfl _ _ 59 rfl w.heap.size 2 i0 (.int .i64 0) 1 Tryz.underlying59 hi hz0 hz1 _ _ _ _ 0 rfl rfl rfl rfl ?c1 ?c2 ?c3 ?_)
    case c1 => omega
    case c2 => unfold maxLen; omega
    case c3 => omega
    intro w1 hown hgrow
    go_wp2
    refine wp_loop_rounds 1 ?_
    rw [rounds_succ]
    go_wp2
    go_ret
    exact ⟨rfl, by simpa [toList_madeCells_one] using hown, (Below.refl _ _).grown hgrow (Nat.le_refl _) (fun k e => by cases e)⟩
  · obtain ⟨b, off, rfl, hb, hc⟩ := h.at hp
    have hzl := h.1
    clear h
    go_enter Tryz.func100, Tryz.ntmps100
    go_wp2_with (at_make; refine wpList_make_full _ rfl _ _ 59 rfl w.heap.size 2 i0 (.int .i64 0) 1 Tryz.underlying59 hi hz0 hz1 _ _ _ _ len rfl rfl rfl rfl ?c1 ?c2 ?c3 ?_)
    case c1 => rw [hz2]; omega
    case c2 => unfold maxLen; omega
    case c3 => omega
    intro w1 hown hgrow
    have hown0 : w1.ownsRow w.heap.size 2 1 (.slice (some ⟨w.heap.size, 0, none⟩) len len) len ((zs.take 0 ++ List.replicate (len - 0) 0).map (Value.int .i64)) := by
      have e : (madeCells #[Value.int .i64 0] len).toList = (zs.take 0 ++ List.replicate (len - 0) 0).map (Value.int .i64) := by
        rw [toList_madeCells_one]; simp
      rw [← e]; exact hown
    have hbel : Below w.heap.size w w1 := (Below.refl _ _).grown hgrow (Nat.le_refl _) (fun k e => by cases e)
    clear hown hgrow
    go_wp2
    go_loopw [4] (fun i wr => ∃ k : Nat, k ≤ len ∧ i = .int .i64 k ∧ wr.ownsRow w.heap.size 2 1 (.slice (some ⟨w.heap.size, 0, none⟩) len len) len ((zs.take k ++ List.replicate (len - k) 0).map (Value.int .i64)) ∧ Below w.heap.size w wr)
      (fun i _ => len - (intOf i).toNat)
    case atStart => exact ⟨0, Nat.zero_le _, rfl, hown0, hbel⟩
    case round =>
      obtain ⟨k, hk, rfl, hown, hbr⟩ := hrel
      clear hown0 hbel
      by_cases hlt : k < len
      · have hst := ifill_step zs len k hzl hlt
        have hcx : wr.cell? ⟨b, off + k, none⟩ = some (.int .i64 (zs.getD k 0)) := (hbr.cell (by exact hb)).trans (hc k hlt)
        generalize zs.getD k 0 = z at hcx hst
        have hfz := hown.frozenAt k
        obtain ⟨u, hu⟩ : ∃ u, wr.cell? ⟨w.heap.size, k, none⟩ = some u := by
          rw [hown.cellAt k (by omega)]
          exact ⟨_, List.getElem?_eq_getElem (by rw [hown.1]; omega)⟩
        have R := hown.stored k (.int .i64 z)
        rw [hst] at R
        have HR := R.1
        have HB : Below w.heap.size w (wr.setCell ⟨w.heap.size, k, none⟩ (.int .i64 z)) := hbr.setCell (Nat.le_refl _) _
        clear R hown hst
        go_wp2
        go_roundw
        case rel => exact ⟨k + 1, by omega, by go_num, HR, HB⟩
        case measure => simp [intOf]; omega
      · obtain rfl : k = len := by omega
        go_wp2
        go_ret
        refine ⟨rfl, ?_, hbr⟩
        simpa [← hzl] using hown

end Go.Proofs.YtioifgbnninmjaaGreatDoor

/- What is proved here: whole structs loaded and stored at once, and the contracts of the laws' helper functions that copy headers, numbers, entries and stores, told by kinds (toHeader, toInt64S, toEntry). -/
namespace Go.Proofs.YtioifgbnninmjaaGreatDoor
open Go.RowKit
set_option linter.unusedVariables false
set_option linter.unusedSimpArgs false
set_option maxRecDepth 100000

theorem putRow_cells : ∀ (us : List Value) (w : World) (g o : Nat), putRow w g o us = w.setCells g o us
  | [], w, g, o => rfl
  | u :: r, w, g, o => putRow_cells r (w.setCell ⟨g, o, none⟩ u) g (o + 1)

theorem SBlk.putRow : ∀ (us : List Value) {w : World} {g : Nat} {vs : List Value} {T : TypeId} (_ : SBlk w g vs T) (o : Nat), SBlk (putRow w g o us) g (setL vs o us) T
  | [], w, g, vs, T, h, o => h
  | u :: r, w, g, vs, T, h, o => by
    rw [Go.Proofs.YtioifgbnninmjaaGreatDoor.putRow, setL]
    exact SBlk.putRow r (h.set o u) (o + 1)

theorem SBlk.putOther {w : World} {g g' : Nat} {vs : List Value} {T : TypeId} (h : SBlk w g vs T) (hne : g ≠ g') (o : Nat) (us : List Value) : SBlk (Go.Proofs.YtioifgbnninmjaaGreatDoor.putRow w g' o us) g vs T := (putRow_other us w g' o g hne).trans h

/-- A struct stored whole. -/
theorem st_run {w : World} {g : Nat} {vs : List Value} {T : TypeId} (h : SBlk w g vs T) (o : Nat) (us : List Value) (ty : TypeId) (hl : o + us.length ≤ vs.length) (hi : (Tryz.prog.info? ty).map (·.size) = some us.length) (h1 : us.toArray.all (·.oneCell') = true) :
    (Instr.storeAt ty (.pointer (some ⟨g, o, none⟩)) (.agg us.toArray)).run Tryz.prog w = .ok () (putRow w g o us) := by
  rw [putRow_cells]
  refine run_storeAt_mid (P := Tryz.prog) w g o ty us.toArray (fun j hj => ⟨?_, h.free _⟩) (by simpa using hi) h1
  rw [h.cell, List.getElem?_eq_getElem (by simp at hj; omega)]
  rfl

/-- A struct loaded whole. -/
theorem ld_run {w : World} {g : Nat} {o : Nat} (us : List Value) (ty : TypeId) (d : TypeDesc) (hs : ∀ j v, us[j]? = some v → w.cell? ⟨g, o + j, none⟩ = some v) (hu : Tryz.prog.underlying ty = some d) (hd : d.isRow = true) (hi : (Tryz.prog.info? ty).map (·.size) = some us.length) :
    (Instr.loadAt ty (.pointer (some ⟨g, o, none⟩))).run Tryz.prog w = .ok (.agg us.toArray) w :=
  run_loadAt_mid (P := Tryz.prog) w g o ty us d hs hu hd hi

theorem exec_load {P : Program} {ρ : Operand → Value} {o : Oper} {w : World} {ty : TypeId} {x : Operand} {p v : Value} (ho : o.op = .load ty x) (hx : ρ x = p) (hrun : (Instr.loadAt ty p).run P w = .ok v w) : (execOp ρ o).run P w = .ok (.value v) w := by
  unfold execOp
  simp only [ho, hx, Sem.run_bind, hrun, Sem.run_pure, Result.andThen_ok]

open Classical in
/-- A list of bytes in blocks of its own, whatever colours stand elsewhere. -/
theorem obss_made {w : World} {g : Nat} {zss : List (List Int)} {C : Nat} (h : OBss w g zss 36 C) (hr : ∀ z ∈ zss, ∀ x ∈ z, 0 ≤ x ∧ x ≤ 255) (hl : zss.length ≤ 1048576) (p : Path) :
    ∃ d : Nat → Path, ∀ d' : Nat → Path, (∀ q, g ≤ q → (q = g ∨ q < C) → d' q = d q) → RowOwn bytesK 36 w g d' p ⟨some ⟨g, 0, none⟩, zss.length, zss.length⟩ zss := by
  obtain ⟨vs, f, h1, h2, h3, h4, h5⟩ := h
  obtain ⟨d, hd⟩ : ∃ d : Nat → Path, d = fun q => if hq : ∃ i, i < zss.length ∧ f i = q then p ++ [hq.choose] else p := ⟨_, rfl⟩
  have dg : d g = p := by
    rw [hd]
    refine dif_neg ?_
    rintro ⟨i, hi, e⟩
    have := (h3 i hi).1
    omega
  have df : ∀ i, i < zss.length → d (f i) = p ++ [i] := by
    intro i hi
    have hq : ∃ j, j < zss.length ∧ f j = f i := ⟨i, hi, rfl⟩
    rw [hd]
    show (if hq : ∃ j, j < zss.length ∧ f j = f i then p ++ [hq.choose] else p) = _
    rw [dif_pos hq, strict_inj h4 hq.choose_spec.1 hi hq.choose_spec.2]
  refine ⟨d, fun d' hd' => ?_⟩
  have dg' : d' g = p := (hd' g (Nat.le_refl _) (.inl rfl)).trans dg
  have df' : ∀ i, i < zss.length → d' (f i) = p ++ [i] := fun i hi => (hd' (f i) (Nat.le_of_lt (h3 i hi).1) (.inr (h3 i hi).2)).trans (df i hi)
  obtain ⟨es, he1, he2⟩ : ∃ es : List Sl, es.length = zss.length ∧ ∀ (i : Nat) (e : Sl), es[i]? = some e → ∃ z, zss[i]? = some z ∧ e = ⟨some ⟨f i, 0, none⟩, z.length, z.length⟩ := by
    refine ⟨zss.zipIdx.map (fun q => ⟨some ⟨f q.2, 0, none⟩, q.1.length, q.1.length⟩), by simp, fun i e he => ?_⟩
    rw [List.getElem?_map, List.getElem?_zipIdx] at he
    cases hz : zss[i]? with
    | none => rw [hz] at he; simp at he
    | some z =>
      rw [hz] at he
      simp at he
      exact ⟨z, rfl, he.symm⟩
  refine ⟨rfl, es, vs, he1, ⟨h2.trans (Nat.mul_one _).symm, by show zss.length ≤ maxLen; unfold maxLen; omega, Nat.le_refl _, (fun e => by cases e), fun x hx => ?_⟩, fun x hx => by cases hx; exact dg', fun i e z he hz => ?_⟩
  · cases hx
    refine ⟨g, 0, vs.toArray, rfl, Nat.le_refl _, h1, by simp [h2, bytesK], ?_⟩
    show (vs.drop 0).take (zss.length * 1) = vs
    rw [List.drop_zero, Nat.mul_one, ← h2, List.take_length]
  · have hi := (List.getElem?_eq_some_iff.1 hz).1
    obtain ⟨z', hz', rfl⟩ := he2 i e he
    obtain rfl : z = z' := Option.some.inj (hz.symm.trans hz')
    obtain ⟨q1, q2⟩ := h5 i z hi hz
    refine ⟨fun j v hv => ?_, hr z (List.mem_of_getElem? hz), ownsRow_base q2 (by omega), fun x hx => by cases hx; exact df' i hi⟩
    match j, hv with
    | 0, hv =>
      simp only [bytesK, List.getElem?_cons_zero, Option.some.injEq] at hv
      subst hv
      have e1 : bytesK.m = 1 := rfl
      rw [e1, Nat.mul_one, Nat.add_zero]
      exact q1

/-- A header in blocks of its own is owned, path by path. -/
theorem HOwn.hk {w v : World} {B : Nat} {x y : HS} {h : Hd} (o : HOwn w B x h) (q : HOk v y h) (i : HIn h) (m : HSm h) (p : Path) : ∃ d : Nat → Path, hdK.Own w B d p x h := by
  obtain ⟨g1, g2, g3, g4, g5, g6, g7, rfl, ⟨l0, l1, l2, l3, l4, l5, l6⟩, o1, o2, o3, o4, o5, o6, o7⟩ := o
  have lt7 : g7 < w.heap.size := BUpto.lt o7
  obtain ⟨ds, hs⟩ := obss_made o3 q.s.bytes m.s (p ++ [1] ++ [1] ++ [1] ++ [1] ++ [1] ++ [1] ++ [0])
  obtain ⟨dk, hk⟩ := obss_made o7 q.k.bytes m.k (p ++ [1] ++ [1] ++ [1] ++ [1] ++ [1] ++ [1] ++ [1] ++ [1] ++ [1] ++ [1])
  obtain ⟨d, hd⟩ : ∃ d : Nat → Path, d = fun g => if g < g2 then p ++ [0] else if g < g3 then p ++ [1] ++ [1] ++ [1] ++ [1] ++ [0] else if g < g4 then ds g else if g < g5 then p ++ [1] ++ [1] ++ [1] ++ [1] ++ [1] ++ [1] ++ [1] ++ [0] else if g < g6 then p ++ [1] ++ [1] ++ [1] ++ [1] ++ [1] ++ [1] ++ [1] ++ [1] ++ [0] else if g < g7 then p ++ [1] ++ [1] ++ [1] ++ [1] ++ [1] ++ [1] ++ [1] ++ [1] ++ [1] ++ [0] else dk g := ⟨_, rfl⟩
  have s' := hs d (fun q h1 h2 => by
    rw [hd]
    dsimp only
    rw [if_neg (by omega), if_neg (by omega), if_pos (by omega)])
  have k' := hk d (fun q h1 h2 => by
    rw [hd]
    dsimp only
    rw [if_neg (by omega), if_neg (by omega), if_neg (by omega), if_neg (by omega), if_neg (by omega), if_neg (by omega)])
  refine ⟨d, ⟨q.p.2.1, ownsRow_base o1 l0, fun x hx => ?_⟩, i.n1, i.n2, i.n3, ⟨q.t.2.1, ownsRow_base o2 (by omega), fun x hx => ?_⟩, i.n5, RowPart.base s' (by omega), ⟨q.r.2.1, ownsRow_base o4 (by omega), fun x hx => ?_⟩, ⟨q.g.2.1, ownsRow_base o5 (by omega), fun x hx => ?_⟩, ⟨q.e.2.1, ownsRow_base o6 (by omega), fun x hx => ?_⟩, RowPart.base k' (by omega)⟩
  all_goals
    cases hx
    rw [hd]
    dsimp only
  · rw [if_pos (by omega)]
  · rw [if_neg (by omega), if_pos (by omega)]
  · rw [if_neg (by omega), if_neg (by omega), if_neg (by omega), if_pos (by omega)]
  · rw [if_neg (by omega), if_neg (by omega), if_neg (by omega), if_neg (by omega), if_pos (by omega)]
  · rw [if_neg (by omega), if_neg (by omega), if_neg (by omega), if_neg (by omega), if_neg (by omega), if_pos (by omega)]

theorem toHeader_hk (p : Path) (x : HS) (h : Hd) (w : World) (o : hdK.Ok w x h) (m : HSm h) :
    Calls Tryz.prog 15 #[.agg (hvals x h)] w fun e w' => ∃ (y : HS) (d : Nat → Path), e = .returned (.agg (hvals y h)) ∧ hdK.Own w' w.heap.size d p y h ∧ Below w.heap.size w w' :=
  (toHeader_any x h w (hd_ok o) m).mono fun e w' ⟨y, he, ho, hb⟩ => match ho.hk (hd_ok o) (hd_in o) m p with
    | ⟨d, hd⟩ => ⟨y, d, he, hdK.base hd (by omega), hb⟩

theorem toI_kd (p : Path) (s : Sl) (z : List Int) (w : World) (o : IOk w s z) (hl : z.length ≤ 1048576) :
    Calls Tryz.prog 100 #[.slice s.a s.n s.c] w fun e w' => ∃ (t : Sl) (d : Nat → Path), e = .returned (.slice t.a t.n t.c) ∧ intsK.Own w' w.heap.size d p t z ∧ Below w.heap.size w w' := by
  refine (toInt64S_any s.a s.n s.c z w o.row (by have := o.row.1; omega)).mono ?_
  rintro e w' ⟨rfl, h1, h2⟩
  exact ⟨⟨some ⟨w.heap.size, 0, none⟩, s.n, s.n⟩, fun _ => p, rfl, ⟨h1, fun x hx => rfl⟩, h2⟩

def hz11 : List Value := [.slice none 0 0, .int .i64 0, .int .i64 0, .int .i64 0, .slice none 0 0, .int .i64 0, .slice none 0 0, .slice none 0 0, .slice none 0 0, .slice none 0 0, .slice none 0 0]
def ez14 : Array Value := #[.slice none 0 0, .int .i64 0, .int .i64 0, .int .i64 0, .slice none 0 0, .int .i64 0, .slice none 0 0, .slice none 0 0, .slice none 0 0, .slice none 0 0, .slice none 0 0, .slice none 0 0, .int .i64 0, .slice none 0 0]

theorem hvals_one (x : HS) (h : Hd) : (hvals x h).all (·.oneCell') = true := by simp [hvals, Value.oneCell']
theorem evals_one (e : EnS) (x : En) : (evals e x).all (·.oneCell') = true := by simp [evals, Value.oneCell']

theorem Kd.Made.put {α β : Type} {K : Kd α β} {w : World} {n B : Nat} {d : Nat → Path} {p : Path} {e : β} {x : α} (h : K.Made w n B d p e x) {g : Nat} (hq : g < B) (o : Nat) (us : List Value) : K.Made (putRow w g o us) n B d p e x :=
  fun d' hd => K.frame (h d' hd) (fun k _ hk _ => putRow_other us w g o k (by omega))

set_option maxHeartbeats 8000000 in
theorem toEntry_any (p : Path) (e : EnS) (x : En) (w : World) (o : enK.Ok w e x) (m : EnSm x) :
    Calls Tryz.prog 70 #[.agg (evals e x)] w fun r w' => ∃ (e' : EnS) (d : Nat → Path), r = .returned (.agg (evals e' x)) ∧ enK.Own w' w.heap.size d p e' x ∧ Below w.heap.size w w' := by
  obtain ⟨hx, z, up, tt⟩ := x
  obtain ⟨eh, ez, eu, et⟩ := e
  have o1 : hdK.Ok w eh hx := o.1
  have o2 : BOk w ez z := o.2.1
  have o3 : in64 up := o.2.2.1
  have o4 : IOk w et tt := o.2.2.2
  have m1 : HSm hx := m.h
  have m2 : z.length ≤ 1048576 := m.z
  have m4 : tt.length ≤ 1048576 := m.t
  have H1 := hide (fun (W : World) (hb : Below w.heap.size w W) => toHeader_hk (p ++ [0]) eh hx W (hdK.below o1 hb (Nat.le_refl _)) m1)
  have H2 := hide (fun (W : World) (hb : Below w.heap.size w W) => toB_kd (p ++ [1] ++ [0]) ez z W (bytesK.below o2 hb (Nat.le_refl _)) m2)
  have H4 := hide (fun (W : World) (hb : Below w.heap.size w W) => toI_kd (p ++ [1] ++ [1] ++ [1]) et tt W (intsK.below o4 hb (Nat.le_refl _)) m4)
  obtain ⟨k0, k1, k2, K0, hsz⟩ := three_blk w (evals (eh, ez, eu, et) (hx, z, up, tt)) ez14 ez14 113 76 76
  obtain ⟨W0, e0⟩ : ∃ W0, ((w.alloc (.cells (evals (eh, ez, eu, et) (hx, z, up, tt)) 113)).alloc (.cells ez14 76)).alloc (.cells ez14 76) = W0 := ⟨_, rfl⟩
  rw [e0] at k0 k1 k2 K0 hsz
  have HO3 := hide o3
  clear o o1 o2 o3 o4 m m1 m2 m4
  have HL1 : Hid ((Instr.loadAt 39 (.pointer (some ⟨w.heap.size, 0, none⟩))).run Tryz.prog W0 = .ok (.agg (hvals eh hx)) W0) :=
    ld_run (hvals eh hx).toList 39 _ (fun j v hv => by
      rw [Nat.zero_add, k0.cell]
      have hj : j < 11 := (List.getElem?_eq_some_iff.1 hv).1
      match j, hj, hv with
      | 0, _, hv | 1, _, hv | 2, _, hv | 3, _, hv | 4, _, hv | 5, _, hv | 6, _, hv | 7, _, hv | 8, _, hv | 9, _, hv | 10, _, hv => exact hv) Tryz.underlying39 rfl (by kernel_rfl)
  have E0 := hide e0
  unfold ez14 at E0
  clear e0
  unfold evals at E0 ⊢
  dsimp only at E0 ⊢
  go_enter Tryz.func70, Tryz.ntmps70
  go_upto_region 2 with fail
  rw [unhide E0]
  clear E0
  go_wp2_with (refine wpList_load_eq rfl 39 _ rfl _ _ rfl (unhide HL1) ?_)
  refine ((unhide H1) _ K0).mono ?_
  rintro r w1 ⟨y1, d1, rfl, q1, b1⟩
  have k0 := k0.below b1 (by omega)
  have k1 := k1.below b1 (by omega)
  have k2 := k2.below b1 (by omega)
  have K1 := K0.trans (b1.mono (by omega))
  have hs1 : w.heap.size + 3 ≤ w1.heap.size := Nat.le_trans (Nat.le_of_eq hsz.symm) b1.size
  have q1 := Kd.made _ q1
  have r1 := hide (st_run k2 0 (hvals y1 hx).toList 45 (by simp [ez14, hvals]) (by kernel_rfl) (hvals_one _ _))
  obtain ⟨W1, eW1⟩ : ∃ W, putRow w1 (w.heap.size + 2) 0 (hvals y1 hx).toList = W := ⟨_, rfl⟩
  have c0 := k0.putOther (g' := w.heap.size + 2) (by omega) 0 (hvals y1 hx).toList
  have c1 := k1.putOther (g' := w.heap.size + 2) (by omega) 0 (hvals y1 hx).toList
  have c2 := k2.putRow (hvals y1 hx).toList 0
  have C1 := putRow_below (hvals y1 hx).toList w w1 w.heap.size (w.heap.size + 2) 0 K1 (by omega)
  have cz := putRow_size (hvals y1 hx).toList w1 (w.heap.size + 2) 0
  have m1 := q1.put (g := w.heap.size + 2) (by omega) 0 (hvals y1 hx).toList
  rw [eW1] at r1 c0 c1 c2 C1 cz m1
  have R1 := hide r1
  have z0 := c0.cell 11
  simp only [evals, List.getElem?_cons_zero, List.getElem?_cons_succ] at z0
  have Q := hide (And.intro c0 (And.intro c1 (And.intro c2 (And.intro C1 (And.intro m1 (And.intro cz hs1))))))
  clear k0 k1 k2 K0 K1 q1 r1 c0 c1 c2 C1 cz m1 eW1 HL1 H1
  go_wp2_with (refine wpList_store_eq rfl 45 _ _ rfl _ _ rfl rfl _ (unhide R1) ?_)
  obtain ⟨c0, c1, c2, C1, m1, cz, hs1⟩ := unhide Q
  clear Q z0 R1
  refine ((unhide H2) _ C1).mono ?_
  rintro r w2 ⟨y2, d2, rfl, q2, b2⟩
  have n2 : w.heap.size + 3 ≤ W1.heap.size := by omega
  have k0 := c0.below b2 (by omega)
  have k1 := c1.below b2 (by omega)
  have k2 := c2.below b2 (by omega)
  have K2 := C1.trans (b2.mono (by omega))
  have m1 := m1.below b2 (Nat.le_refl _)
  have m2 := Kd.made _ q2
  have hs2 : W1.heap.size ≤ w2.heap.size := b2.size
  have x0 := k0.cell 12
  have x1 := k0.cell 13
  have u0 := k2.cell 11
  have u1 := k2.cell 12
  have f0 := k2.free 11
  have f1 := k2.free 12
  simp only [evals, ez14, hvals, setL, List.set_cons_zero, List.set_cons_succ, List.getElem?_cons_zero, List.getElem?_cons_succ] at x0 x1 u0 u1
  have Q := hide (And.intro k0 (And.intro k1 (And.intro k2 (And.intro K2 (And.intro m1 (And.intro m2 (And.intro hs2 (And.intro n2 (And.intro cz hs1)))))))))
  clear c0 c1 c2 C1 q2 b2 cz hs1 k0 k1 k2 K2 m1 m2 hs2 n2 H2
  go_wp2_with fail
  obtain ⟨k0, k1, k2, K2, m1, m2, hs2, n2, cz, hs1⟩ := unhide Q
  clear Q x0 x1 u0 u1 f0 f1
  have k1 := (k1.other (g' := w.heap.size + 2) (i := 11) (v := .slice y2.a y2.n y2.c) (by omega)).other (g' := w.heap.size + 2) (i := 12) (v := .int .i64 up) (by omega)
  have k2 := (k2.set 11 (.slice y2.a y2.n y2.c)).set 12 (.int .i64 up)
  have K2 := (K2.setCell (p := ⟨w.heap.size + 2, 11, none⟩) (by show w.heap.size ≤ w.heap.size + 2; omega) (.slice y2.a y2.n y2.c)).setCell (p := ⟨w.heap.size + 2, 12, none⟩) (by show w.heap.size ≤ w.heap.size + 2; omega) (.int .i64 up)
  have m1 := (m1.set (q := ⟨w.heap.size + 2, 11, none⟩) (by show w.heap.size + 2 < _; omega) (.slice y2.a y2.n y2.c)).set (q := ⟨w.heap.size + 2, 12, none⟩) (by show w.heap.size + 2 < _; omega) (.int .i64 up)
  have m2 := (m2.set (q := ⟨w.heap.size + 2, 11, none⟩) (by show w.heap.size + 2 < _; omega) (.slice y2.a y2.n y2.c)).set (q := ⟨w.heap.size + 2, 12, none⟩) (by show w.heap.size + 2 < _; omega) (.int .i64 up)
  have hz2 : ((w2.setCell ⟨w.heap.size + 2, 11, none⟩ (.slice y2.a y2.n y2.c)).setCell ⟨w.heap.size + 2, 12, none⟩ (.int .i64 up)).heap.size = w2.heap.size := by rw [size_set', size_set']
  generalize (w2.setCell ⟨w.heap.size + 2, 11, none⟩ (.slice y2.a y2.n y2.c)).setCell ⟨w.heap.size + 2, 12, none⟩ (.int .i64 up) = W2 at k1 k2 K2 m1 m2 hz2 ⊢
  refine ((unhide H4) _ K2).mono ?_
  rintro r w3 ⟨y4, d4, rfl, q4, b4⟩
  have k1 := k1.below b4 (by omega)
  have k2 := k2.below b4 (by omega)
  have K3 := K2.trans (b4.mono (by omega))
  have m1 := m1.below b4 (Nat.le_refl _)
  have m2 := m2.below b4 (Nat.le_refl _)
  have m4 := Kd.made _ q4
  have hs3 : W2.heap.size ≤ w3.heap.size := b4.size
  have u0 := k2.cell 13
  have f0 := k2.free 13
  simp only [evals, ez14, hvals, setL, List.set_cons_zero, List.set_cons_succ, List.getElem?_cons_zero, List.getElem?_cons_succ] at u0
  have Q := hide (And.intro k1 (And.intro k2 (And.intro K3 (And.intro m1 (And.intro m2 (And.intro m4 (And.intro hs3 (And.intro hz2 (And.intro hs2 (And.intro n2 (And.intro cz hs1)))))))))))
  clear k0 k1 k2 K2 m1 m2 m4 hs3 hz2 hs2 n2 cz hs1 K3 q4 b4 H4
  go_upto_region 6 with fail
  obtain ⟨k1, k2, K3, m1, m2, m4, hs3, hz2, hs2, n2, cz, hs1⟩ := unhide Q
  clear Q u0 f0
  have k1 := k1.other (g' := w.heap.size + 2) (i := 13) (v := .slice y4.a y4.n y4.c) (by omega)
  have k2 := k2.set 13 (.slice y4.a y4.n y4.c)
  have K3 := K3.setCell (p := ⟨w.heap.size + 2, 13, none⟩) (by show w.heap.size ≤ w.heap.size + 2; omega) (.slice y4.a y4.n y4.c)
  have m1 := m1.set (q := ⟨w.heap.size + 2, 13, none⟩) (by show w.heap.size + 2 < _; omega) (.slice y4.a y4.n y4.c)
  have m2 := m2.set (q := ⟨w.heap.size + 2, 13, none⟩) (by show w.heap.size + 2 < _; omega) (.slice y4.a y4.n y4.c)
  have m4 := m4.set (q := ⟨w.heap.size + 2, 13, none⟩) (by show w.heap.size + 2 < _; omega) (.slice y4.a y4.n y4.c)
  generalize w3.setCell ⟨w.heap.size + 2, 13, none⟩ (.slice y4.a y4.n y4.c) = W3 at k1 k2 K3 m1 m2 m4 ⊢
  replace k2 : SBlk W3 (w.heap.size + 2) (evals (y1, y2, eu, y4) (hx, z, up, tt)).toList 76 := k2
  have HL := hide (ld_run (g := w.heap.size + 2) (o := 0) (evals (y1, y2, eu, y4) (hx, z, up, tt)).toList 76 _ (fun j v hv => by rw [Nat.zero_add, k2.cell]; exact hv) Tryz.underlying76 rfl (by kernel_rfl))
  have HS := hide (st_run k1 0 (evals (y1, y2, eu, y4) (hx, z, up, tt)).toList 76 (by simp [ez14, evals]) (by kernel_rfl) (evals_one _ _))
  have k1 := k1.putRow (evals (y1, y2, eu, y4) (hx, z, up, tt)).toList 0
  replace k1 : SBlk (putRow W3 (w.heap.size + 1) 0 (evals (y1, y2, eu, y4) (hx, z, up, tt)).toList) (w.heap.size + 1) (evals (y1, y2, eu, y4) (hx, z, up, tt)).toList 76 := k1
  have K3 := putRow_below (evals (y1, y2, eu, y4) (hx, z, up, tt)).toList w W3 w.heap.size (w.heap.size + 1) 0 K3 (by omega)
  have m1 := m1.put (g := w.heap.size + 1) (by omega) 0 (evals (y1, y2, eu, y4) (hx, z, up, tt)).toList
  have m2 := m2.put (g := w.heap.size + 1) (by omega) 0 (evals (y1, y2, eu, y4) (hx, z, up, tt)).toList
  have m4 := m4.put (g := w.heap.size + 1) (by omega) 0 (evals (y1, y2, eu, y4) (hx, z, up, tt)).toList
  obtain ⟨W4, eW4⟩ : ∃ W, putRow W3 (w.heap.size + 1) 0 (evals (y1, y2, eu, y4) (hx, z, up, tt)).toList = W := ⟨_, rfl⟩
  rw [eW4] at HS k1 K3 m1 m2 m4
  have Q := hide (And.intro k1 (And.intro K3 (And.intro m1 (And.intro m2 (And.intro m4 (And.intro hs3 (And.intro hz2 (And.intro hs2 (And.intro n2 (And.intro cz hs1))))))))))
  clear k1 k2 K3 m1 m2 m4 hs3 hz2 hs2 n2 cz hs1 eW4
  have HV : Hid ((evals (y1, y2, eu, y4) (hx, z, up, tt)).toList.toArray = evals (y1, y2, eu, y4) (hx, z, up, tt)) := rfl
  generalize (evals (y1, y2, eu, y4) (hx, z, up, tt)).toList = V at HL HS Q HV
  go_wp2_with (first | (refine wpList_load_eq rfl 76 _ rfl _ _ rfl (unhide HL) ?_) | (refine wpList_store_eq rfl 76 _ _ rfl _ _ rfl rfl _ (unhide HS) ?_))
  obtain ⟨k1, K3, m1, m2, m4, hs3, hz2, hs2, n2, cz, hs1⟩ := unhide Q
  refine bodyPost_ret (results_cell_row rfl _ _ (w.heap.size + 1) 76 _ (0, 0) _ rfl k1 Tryz.underlying76 rfl (by rw [unhide HV]; kernel_rfl)) rfl ⟨(y1, y2, (), y4), joinD W1.heap.size d1 (joinD W2.heap.size d2 d4), ?_, ?_, K3⟩
  · rw [unhide HV]
    rfl
  · refine ⟨hdK.base (m1 _ (fun g h1 h2 => joinD_lt (by omega))) (by omega), bytesK.base (m2 _ (fun g h1 h2 => ?_)) (by omega), unhide HO3, intsK.base (m4 _ (fun g h1 h2 => ?_)) (by omega)⟩
    · rw [joinD_ge (by omega), joinD_lt (by omega)]
    · rw [joinD_ge (by omega), joinD_ge (by omega)]

end Go.Proofs.YtioifgbnninmjaaGreatDoor

/- What is proved here: the contract of the laws' helper function that compares slices of slices of bytes (eqByteSS). -/
namespace Go.Proofs.YtioifgbnninmjaaGreatDoor
open Go.RowKit
set_option linter.unusedVariables false
set_option maxRecDepth 100000

set_option maxHeartbeats 2000000 in
theorem eqByteSS_any (a b : Option Addr) (la ca lb cb : Nat) (xs ys : List (List Int)) (w : World) (ha : BsRow w a la xs) (hb : BsRow w b lb ys) (hl : la ≤ 1048576) (hl2 : lb ≤ 1048576) (hx : ∀ z ∈ xs, z.length ≤ 1048576) (hy : ∀ z ∈ ys, z.length ≤ 1048576) :
    Calls Tryz.prog 54 #[.slice a la ca, .slice b lb cb] w fun e w' => e = .returned (.bool (sameBs xs ys)) ∧ ∃ n, w' = w.drewN n := by
  have hxl := ha.1
  have hyl := hb.1
  by_cases hne : la = lb
  · subst hne
    have hlen : (((la : Nat) : Int) != ((la : Nat) : Int)) = false := by simp
    rcases Nat.eq_zero_or_pos la with h0 | hp
    · subst h0
      have hx : xs = [] := List.length_eq_zero_iff.1 hxl
      have hy : ys = [] := List.length_eq_zero_iff.1 hyl
      subst hx hy
      clear ha hb
      go_enter Tryz.func54, Tryz.ntmps54
      go_wp2_with fail
      refine wp_loop_rounds 1 ?_
      rw [rounds_succ]
      go_wp2_with fail
      go_ret
      exact ⟨rfl, 0, rfl⟩
    · obtain ⟨ba, oa, rfl, hba, hca⟩ := ha.at hp
      obtain ⟨bb, ob, rfl, hbb, hcb⟩ := hb.at hp
      have HCA := hide hca
      have HCB := hide hcb
      have HX := hide hx
      have HY := hide hy
      have HXL := hide hxl
      have HYL := hide hyl
      clear ha hb hca hcb hx hy hxl hyl
      go_enter Tryz.func54, Tryz.ntmps54
      go_wp2_with fail
      go_loopw [5] (fun i wr => ∃ k n : Nat, k ≤ la ∧ i = .int .i64 k ∧ sameBs xs ys = sameBs (xs.drop k) (ys.drop k) ∧ wr = w.drewN n) (fun i _ => la - (intOf i).toNat)
      case atStart => exact ⟨0, 0, Nat.zero_le _, rfl, by simp, rfl⟩
      case round =>
        obtain ⟨k, n, hk, rfl, hpre, rfl⟩ := hrel
        by_cases hlt : k < la
        · obtain ⟨x, hix⟩ : ∃ z, xs[k]? = some z := ⟨_, List.getElem?_eq_getElem (by rw [unhide HXL]; exact hlt)⟩
          obtain ⟨y, hiy⟩ : ∃ z, ys[k]? = some z := ⟨_, List.getElem?_eq_getElem (by rw [unhide HYL]; exact hlt)⟩
          have hst := sameBs_step xs ys k x y hix hiy
          rw [← hpre] at hst
          obtain ⟨s1, n1, d1, p0, r1⟩ := (unhide HCA) k x hix
          obtain ⟨s2, n2, d2, q0, r2⟩ := (unhide HCB) k y hiy
          have m1 : n1 ≤ 1048576 := by rw [← r1.1]; exact (unhide HX) x (List.mem_of_getElem? hix)
          have m2 : n2 ≤ 1048576 := by rw [← r2.1]; exact (unhide HY) y (List.mem_of_getElem? hiy)
          have HEQ := hide (fun (m : Nat) => eqByteS_any s1 s2 n1 d1 n2 d2 x y (w.drewN m) (r1.below (B := w.heap.size) (below_drewN (Below.refl _ _) m) (Nat.le_refl _)) (r2.below (B := w.heap.size) (below_drewN (Below.refl _ _) m) (Nat.le_refl _)) m1 m2)
          have HP := hide hpre
          have HS := hide hst
          have i1 : (0 : Int) ≤ (k : Int) := by omega
          have i2 : (k : Int) < (la : Int) := by omega
          clear r1 r2 hst hpre hix hiy m1 m2
          generalize sameB x y = sb at HEQ HS
          go_wp2_with fail
          go_region_with (first | (go_at_call 26; refine ((unhide HEQ) (n + 1)).mono ?_; rintro e w1 ⟨rfl, m, rfl⟩))
          all_goals
            cases sb
            · go_wp2_with fail
              go_ret
              exact ⟨ret_bool (by rw [unhide HS]; rfl), _, by first | rfl | exact World.drewN_drewN ..⟩
            · go_wp2_with fail
              go_roundw
              case rel => exact ⟨k + 1, _, by omega, by go_num, by rw [unhide HS]; simp, by first | rfl | exact World.drewN_drewN ..⟩
              case measure => simp [intOf]; omega
        · obtain rfl : k = la := by omega
          have e := sameBs_end xs ys k (unhide HXL) (unhide HYL)
          rw [e] at hpre
          have HE := hide hpre
          clear e hpre
          go_wp2_with fail
          go_ret
          exact ⟨ret_bool (unhide HE).symm, n, rfl⟩
  · have hlen : (((la : Nat) : Int) != ((lb : Nat) : Int)) = true := by simp; omega
    have HE := hide (sameBs_len xs ys (by rw [hxl, hyl]; exact hne))
    clear ha hb hxl hyl
    go_enter Tryz.func54, Tryz.ntmps54
    go_wp2_with fail
    go_ret
    exact ⟨ret_bool (unhide HE).symm, 0, rfl⟩

end Go.Proofs.YtioifgbnninmjaaGreatDoor

/- What is proved here: the contract of the laws' helper function eqHeader, for two that are the same: it answers true. -/
namespace Go.Proofs.YtioifgbnninmjaaGreatDoor
open Go.RowKit
set_option linter.unusedVariables false
set_option maxRecDepth 100000

theorem ne64 (n : Int) : (n != n) = false := by simp

theorem eqB_yes (a b : Option Addr) (la ca lb cb : Nat) (xs : List Int) (w : World) (ha : BRow w a la xs) (hb : BRow w b lb xs) (hl : xs.length ≤ 1048576) :
    Calls Tryz.prog 26 #[.slice a la ca, .slice b lb cb] w fun e w' => e = .returned (.bool true) ∧ Below w.heap.size w w' :=
  (eqByteS_any a b la ca lb cb xs xs w ha hb (by rw [← ha.1]; exact hl) (by rw [← hb.1]; exact hl)).mono fun e w' ⟨he, n, hw⟩ => ⟨by rw [he, sameB_self], by rw [hw]; exact below_drewN (Below.refl _ _) n⟩

theorem eqBs_yes (a b : Option Addr) (la ca lb cb : Nat) (xs : List (List Int)) (w : World) (ha : BsRow w a la xs) (hb : BsRow w b lb xs) (hl : xs.length ≤ 1048576) (hz : ∀ z ∈ xs, z.length ≤ 1048576) :
    Calls Tryz.prog 54 #[.slice a la ca, .slice b lb cb] w fun e w' => e = .returned (.bool true) ∧ Below w.heap.size w w' :=
  (eqByteSS_any a b la ca lb cb xs xs w ha hb (by rw [← ha.1]; exact hl) (by rw [← hb.1]; exact hl) hz hz).mono fun e w' ⟨he, n, hw⟩ => ⟨by rw [he, sameBs_self], by rw [hw]; exact below_drewN (Below.refl _ _) n⟩

theorem two_blk (w : World) (vs us : Array Value) (T S : TypeId) : SBlk ((w.alloc (.cells vs T)).alloc (.cells us S)) w.heap.size vs.toList T ∧ SBlk ((w.alloc (.cells vs T)).alloc (.cells us S)) (w.heap.size + 1) us.toList S ∧ Below w.heap.size w ((w.alloc (.cells vs T)).alloc (.cells us S)) ∧ ((w.alloc (.cells vs T)).alloc (.cells us S)).heap.size = w.heap.size + 2 := by
  refine ⟨?_, ?_, ((Below.refl _ _).alloc (Nat.le_refl _) _).alloc (by simp) _, by simp⟩
  · exact (SBlk.new w vs T).next _
  · have h := SBlk.new (w.alloc (.cells vs T)) us S
    rwa [show (w.alloc (.cells vs T)).heap.size = w.heap.size + 1 by simp] at h

set_option maxHeartbeats 8000000 in
theorem eqHeader_same (x y : HS) (h : Hd) (w : World) (o : HOk w x h) (q : HOk w y h) (m : HSm h) :
    Calls Tryz.prog 18 #[.agg (hvals x h), .agg (hvals y h)] w fun e w' => e = .returned (.bool true) ∧ Below w.heap.size w w' := by
  have HO := hide (fun (W : World) (hb : Below w.heap.size w W) => o.below hb (Nat.le_refl _))
  have HQ := hide (fun (W : World) (hb : Below w.heap.size w W) => q.below hb (Nat.le_refl _))
  have HM := hide m
  obtain ⟨k0, k1, k2, k3⟩ := two_blk w (hvals x h) (hvals y h) 45 45
  clear o q m
  have hn1 := ne64 h.n1
  have hn2 := ne64 h.n2
  have hn3 := ne64 h.n3
  have hn5 := ne64 h.n5
  unfold hvals at k0 k1 k2 k3 ⊢
  obtain ⟨W0, e0⟩ : ∃ W0, (w.alloc (.cells #[.slice x.p.a x.p.n x.p.c, .int .i64 h.n1, .int .i64 h.n2, .int .i64 h.n3, .slice x.t.a x.t.n x.t.c, .int .i64 h.n5, .slice x.s.a x.s.n x.s.c, .slice x.r.a x.r.n x.r.c, .slice x.g.a x.g.n x.g.c, .slice x.e.a x.e.n x.e.c, .slice x.k.a x.k.n x.k.c] 45)).alloc (.cells #[.slice y.p.a y.p.n y.p.c, .int .i64 h.n1, .int .i64 h.n2, .int .i64 h.n3, .slice y.t.a y.t.n y.t.c, .int .i64 h.n5, .slice y.s.a y.s.n y.s.c, .slice y.r.a y.r.n y.r.c, .slice y.g.a y.g.n y.g.c, .slice y.e.a y.e.n y.e.c, .slice y.k.a y.k.n y.k.c] 45) = W0 := ⟨_, rfl⟩
  rw [e0] at k0 k1 k2 k3
  have hg : w.heap.size + 1 < W0.heap.size := by omega
  go_enter Tryz.func18, Tryz.ntmps18
  have x0 := k0.cell 0
  have y0 := k1.cell 0
  simp only [List.getElem?_cons_zero] at x0 y0
  go_wp2_with (rw [e0])
  clear e0
  refine (eqB_yes _ _ _ _ _ _ h.p _ ((unhide HO) _ k2).p ((unhide HQ) _ k2).p (unhide HM).p).mono ?_
  rintro e w1 ⟨rfl, b1⟩
  have k0 := k0.below b1 k0.lt
  have k1 := k1.below b1 k1.lt
  have k2 := k2.trans (b1.mono k2.size)
  clear b1
  have x1 := k0.cell 1
  have y1 := k1.cell 1
  have x2 := k0.cell 2
  have y2 := k1.cell 2
  have x3 := k0.cell 3
  have y3 := k1.cell 3
  have x4 := k0.cell 4
  have y4 := k1.cell 4
  simp only [List.getElem?_cons_zero, List.getElem?_cons_succ] at x1 y1 x2 y2 x3 y3 x4 y4
  go_wp2_with fail
  refine (eqB_yes _ _ _ _ _ _ h.t _ ((unhide HO) _ k2).t ((unhide HQ) _ k2).t (unhide HM).t).mono ?_
  rintro e w2 ⟨rfl, b2⟩
  have k0 := k0.below b2 k0.lt
  have k1 := k1.below b2 k1.lt
  have k2 := k2.trans (b2.mono k2.size)
  clear b2
  have x5 := k0.cell 5
  have y5 := k1.cell 5
  have x6 := k0.cell 6
  have y6 := k1.cell 6
  simp only [List.getElem?_cons_zero, List.getElem?_cons_succ] at x5 y5 x6 y6
  go_wp2_with fail
  refine (eqBs_yes _ _ _ _ _ _ h.s _ ((unhide HO) _ k2).s ((unhide HQ) _ k2).s (unhide HM).s (unhide HM).sz).mono ?_
  rintro e w3 ⟨rfl, b3⟩
  have k0 := k0.below b3 k0.lt
  have k1 := k1.below b3 k1.lt
  have k2 := k2.trans (b3.mono k2.size)
  clear b3
  have x7 := k0.cell 7
  have y7 := k1.cell 7
  simp only [List.getElem?_cons_zero, List.getElem?_cons_succ] at x7 y7
  go_wp2_with fail
  refine (eqB_yes _ _ _ _ _ _ h.r _ ((unhide HO) _ k2).r ((unhide HQ) _ k2).r (unhide HM).r).mono ?_
  rintro e w4 ⟨rfl, b4⟩
  have k0 := k0.below b4 k0.lt
  have k1 := k1.below b4 k1.lt
  have k2 := k2.trans (b4.mono k2.size)
  clear b4
  have x8 := k0.cell 8
  have y8 := k1.cell 8
  simp only [List.getElem?_cons_zero, List.getElem?_cons_succ] at x8 y8
  go_wp2_with fail
  refine (eqB_yes _ _ _ _ _ _ h.g _ ((unhide HO) _ k2).g ((unhide HQ) _ k2).g (unhide HM).g).mono ?_
  rintro e w5 ⟨rfl, b5⟩
  have k0 := k0.below b5 k0.lt
  have k1 := k1.below b5 k1.lt
  have k2 := k2.trans (b5.mono k2.size)
  clear b5
  have x9 := k0.cell 9
  have y9 := k1.cell 9
  simp only [List.getElem?_cons_zero, List.getElem?_cons_succ] at x9 y9
  go_wp2_with fail
  refine (eqB_yes _ _ _ _ _ _ h.e _ ((unhide HO) _ k2).e ((unhide HQ) _ k2).e (unhide HM).e).mono ?_
  rintro e w6 ⟨rfl, b6⟩
  have k0 := k0.below b6 k0.lt
  have k1 := k1.below b6 k1.lt
  have k2 := k2.trans (b6.mono k2.size)
  clear b6
  have x10 := k0.cell 10
  have y10 := k1.cell 10
  simp only [List.getElem?_cons_zero, List.getElem?_cons_succ] at x10 y10
  go_wp2_with fail
  refine (eqBs_yes _ _ _ _ _ _ h.k _ ((unhide HO) _ k2).k ((unhide HQ) _ k2).k (unhide HM).k (unhide HM).kz).mono ?_
  rintro e w7 ⟨rfl, b7⟩
  have k0 := k0.below b7 k0.lt
  have k1 := k1.below b7 k1.lt
  have k2 := k2.trans (b7.mono k2.size)
  clear b7
  go_wp2_with fail
  go_ret
  exact ⟨rfl, k2⟩

end Go.Proofs.YtioifgbnninmjaaGreatDoor

/- What is proved here: the contracts of the laws' helper functions on slices of int64 (eqInt64S), for slices of at most 2^20 numbers. -/
namespace Go.Proofs.YtioifgbnninmjaaGreatDoor
open Go.RowKit
set_option linter.unusedVariables false
set_option maxRecDepth 100000

set_option maxHeartbeats 400000 in
theorem eqInt64S_any (a b : Option Addr) (la ca lb cb : Nat) (xs ys : List Int) (w : World) (ha : IRow w a la xs) (hb : IRow w b lb ys) (hl : la ≤ 1048576) (hl2 : lb ≤ 1048576) :
    Calls Tryz.prog 64 #[.slice a la ca, .slice b lb cb] w fun e w' => e = .returned (.bool (sameB xs ys)) ∧ ∃ n, w' = w.drewN n := by
  have hxl := ha.1
  have hyl := hb.1
  by_cases hne : la = lb
  · subst hne
    have hlen : (((la : Nat) : Int) != ((la : Nat) : Int)) = false := by simp
    rcases Nat.eq_zero_or_pos la with h0 | hp
    · subst h0
      have hx : xs = [] := List.length_eq_zero_iff.1 hxl
      have hy : ys = [] := List.length_eq_zero_iff.1 hyl
      subst hx hy
      clear ha hb
      go_enter Tryz.func64, Tryz.ntmps64
      go_wp2
      refine wp_loop_rounds 1 ?_
      rw [rounds_succ]
      go_wp2
      go_ret
      exact ⟨rfl, 0, rfl⟩
    · obtain ⟨ba, oa, rfl, hba, hca⟩ := ha.at hp
      obtain ⟨bb, ob, rfl, hbb, hcb⟩ := hb.at hp
      have HCA := hide hca
      have HCB := hide hcb
      clear ha hb hca hcb
      go_enter Tryz.func64, Tryz.ntmps64
      go_wp2
      go_loopw [5] (fun i wr => ∃ k n : Nat, k ≤ la ∧ i = .int .i64 k ∧ xs.take k = ys.take k ∧ wr = w.drewN n)
        (fun i _ => la - (intOf i).toNat)
      case atStart => exact ⟨0, 0, Nat.zero_le _, rfl, rfl, rfl⟩
      case round =>
        obtain ⟨k, n, hk, rfl, hpre, rfl⟩ := hrel
        by_cases hlt : k < la
        · have h1 : w.cell? ⟨ba, oa + k, none⟩ = some (.int .i64 (xs.getD k 0)) := (unhide HCA) k hlt
          have h2 : w.cell? ⟨bb, ob + k, none⟩ = some (.int .i64 (ys.getD k 0)) := (unhide HCB) k hlt
          have Hs := take_same xs ys k (by omega) (by omega) hpre
          have Hd := take_other xs ys k (by omega) (by omega)
          generalize xs.getD k 0 = x at h1 Hs Hd
          generalize ys.getD k 0 = y at h2 Hs Hd
          have HS := hide Hs
          have HD := hide Hd
          have HP := hide hpre
          have i1 : (0 : Int) ≤ (k : Int) := by omega
          have i2 : (k : Int) < (la : Int) := by omega
          clear Hs Hd hpre hxl hyl
          by_cases hxy : x = y
          · subst hxy
            have HT := hide ((unhide HS) rfl)
            clear HS HD HP
            have ht : (x != x) = false := by simp
            go_wp2
            go_quiet (fail)
            go_wp2
            go_roundw
            case rel => exact ⟨k + 1, _, by omega, by go_num, unhide HT, rfl⟩
            case measure => simp [intOf]; omega
          · have ht : (x != y) = true := by simp [hxy]
            go_wp2
            go_quiet (fail)
            go_wp2
            go_ret
            exact ⟨ret_bool ((unhide HD) hxy).symm, _, World.drewN_drewN ..⟩
        · obtain rfl : k = la := by omega
          have e := take_whole xs ys k hxl hyl hpre
          have HE := hide e
          clear e hpre hxl hyl
          go_wp2
          go_ret
          exact ⟨ret_bool (unhide HE).symm, n, rfl⟩
  · have hlen : (((la : Nat) : Int) != ((lb : Nat) : Int)) = true := by simp; omega
    have e : sameB xs ys = false := by
      unfold sameB
      rw [beq_eq_false_iff_ne]
      intro e; rw [e] at hxl; omega
    have HE := hide e
    clear e
    go_enter Tryz.func64, Tryz.ntmps64
    go_wp2
    go_ret
    exact ⟨ret_bool (unhide HE).symm, 0, rfl⟩

end Go.Proofs.YtioifgbnninmjaaGreatDoor
