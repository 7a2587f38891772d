/- What is proved here: the contract of the laws' helper function eqHeader, for two that are the same: it answers true. -/
import Derived.Test.YtdmcmlcmgbbclaaGreatChecked
import Derived.Test.YtdmcmlcmgbbclaaGreatJ7
import Derived.Test.YtdmcmlcmgbbclaaGreatJ3
import Derived.WalkKit
import Derived.WalkLawsBesides
import Derived.WalkSmall
import Derived.Deep.DeepCutAuto
import Derived.KernelRfl
import Derived.WalkSpells
import Derived.Test.YtdmcmlcmgbbclaaGreatJ17
namespace Go.Proofs.YtdmcmlcmgbbclaaGreat
set_option linter.unusedVariables false
set_option linter.unusedSimpArgs false
open Go.RowKit
set_option maxRecDepth 100000

theorem ne64 (n : Int) : (n != n) = false := by simp

theorem eqB_yes (a b : Option Addr) (la ca lb cb : Nat) (xs : List Int) (w : World) (ha : BRow w a la xs) (hb : BRow w b lb xs) (hl : xs.length ≤ 1048576) :
    Calls Tryz.prog 42 #[.slice a la ca, .slice b lb cb] w fun e w' => e = .returned (.bool true) ∧ Below w.heap.size w w' :=
 (eqByteS_any a b la ca lb cb xs xs w ha hb (by rw [← ha.1]; exact hl) (by rw [← hb.1]; exact hl)).mono fun e w' ⟨he, n, hw⟩ => ⟨by rw [he, sameB_self], by rw [hw]; exact below_drewN (Below.refl _ _) n⟩

theorem eqBs_yes (a b : Option Addr) (la ca lb cb : Nat) (xs : List (List Int)) (w : World) (ha : BsRow w a la xs) (hb : BsRow w b lb xs) (hl : xs.length ≤ 1048576) (hz : ∀ z ∈ xs, z.length ≤ 1048576) :
    Calls Tryz.prog 39 #[.slice a la ca, .slice b lb cb] w fun e w' => e = .returned (.bool true) ∧ Below w.heap.size w w' :=
 (eqByteSS_any a b la ca lb cb xs xs w ha hb (by rw [← ha.1]; exact hl) (by rw [← hb.1]; exact hl) hz hz).mono fun e w' ⟨he, n, hw⟩ => ⟨by rw [he, sameBs_self], by rw [hw]; exact below_drewN (Below.refl _ _) n⟩

theorem two_blk (w : World) (vs us : Array Value) (T S : TypeId) : SBlk ((w.alloc (.cells vs T)).alloc (.cells us S)) w.heap.size vs.toList T ∧ SBlk ((w.alloc (.cells vs T)).alloc (.cells us S)) (w.heap.size + 1) us.toList S ∧ Below w.heap.size w ((w.alloc (.cells vs T)).alloc (.cells us S)) ∧ ((w.alloc (.cells vs T)).alloc (.cells us S)).heap.size = w.heap.size + 2 := by
 refine ⟨?_, ?_, ((Below.refl _ _).alloc (Nat.le_refl _) _).alloc (by simp) _, by simp⟩
 · exact (SBlk.new w vs T).next _
 · have h := SBlk.new (w.alloc (.cells vs T)) us S
   rwa [show (w.alloc (.cells vs T)).heap.size = w.heap.size + 1 by simp] at h

set_option maxHeartbeats 8000000 in
theorem eqHeader_same (x y : HS) (h : Hd) (w : World) (o : HOk w x h) (q : HOk w y h) (m : HSm h) :
    Calls Tryz.prog 13 #[.agg (hvals x h), .agg (hvals y h)] w fun e w' => e = .returned (.bool true) ∧ Below w.heap.size w w' := by
 have HO := hide (fun (W : World) (hb : Below w.heap.size w W) => o.below hb (Nat.le_refl _))
 have HQ := hide (fun (W : World) (hb : Below w.heap.size w W) => q.below hb (Nat.le_refl _))
 have HM := hide m
 obtain ⟨k0, k1, k2, k3⟩ := two_blk w (hvals x h) (hvals y h) 44 44
 clear o q m
 have hn1 := ne64 h.n1
 have hn2 := ne64 h.n2
 have hn3 := ne64 h.n3
 have hn5 := ne64 h.n5
 unfold hvals at k0 k1 k2 k3 ⊢
 obtain ⟨W0, e0⟩ : ∃ W0, (w.alloc (.cells #[.slice x.p.a x.p.n x.p.c, .int .i64 h.n1, .int .i64 h.n2, .int .i64 h.n3, .slice x.t.a x.t.n x.t.c, .int .i64 h.n5, .slice x.s.a x.s.n x.s.c, .slice x.r.a x.r.n x.r.c, .slice x.g.a x.g.n x.g.c, .slice x.e.a x.e.n x.e.c, .slice x.k.a x.k.n x.k.c] 44)).alloc (.cells #[.slice y.p.a y.p.n y.p.c, .int .i64 h.n1, .int .i64 h.n2, .int .i64 h.n3, .slice y.t.a y.t.n y.t.c, .int .i64 h.n5, .slice y.s.a y.s.n y.s.c, .slice y.r.a y.r.n y.r.c, .slice y.g.a y.g.n y.g.c, .slice y.e.a y.e.n y.e.c, .slice y.k.a y.k.n y.k.c] 44) = W0 := ⟨_, rfl⟩
 rw [e0] at k0 k1 k2 k3
 have hg : w.heap.size + 1 < W0.heap.size := by omega
 go_enter Tryz.func13, Tryz.ntmps13
 have x0 := k0.cell 0
 have y0 := k1.cell 0
 simp only [List.getElem?_cons_zero] at x0 y0
 go_wp2_with (rw [e0])
 clear e0
 refine (eqB_yes _ _ _ _ _ _ h.p _ ((unhide HO) _ k2).p ((unhide HQ) _ k2).p (unhide HM).p).mono ?_
 rintro e w1 ⟨rfl, b1⟩
 have k0 := k0.below b1 k0.lt
 have k1 := k1.below b1 k1.lt
 have k2 := k2.trans (b1.mono k2.size)
 clear b1
 have x1 := k0.cell 1
 have y1 := k1.cell 1
 have x2 := k0.cell 2
 have y2 := k1.cell 2
 have x3 := k0.cell 3
 have y3 := k1.cell 3
 have x4 := k0.cell 4
 have y4 := k1.cell 4
 simp only [List.getElem?_cons_zero, List.getElem?_cons_succ] at x1 y1 x2 y2 x3 y3 x4 y4
 go_wp2_with fail
 refine (eqB_yes _ _ _ _ _ _ h.t _ ((unhide HO) _ k2).t ((unhide HQ) _ k2).t (unhide HM).t).mono ?_
 rintro e w2 ⟨rfl, b2⟩
 have k0 := k0.below b2 k0.lt
 have k1 := k1.below b2 k1.lt
 have k2 := k2.trans (b2.mono k2.size)
 clear b2
 have x5 := k0.cell 5
 have y5 := k1.cell 5
 have x6 := k0.cell 6
 have y6 := k1.cell 6
 simp only [List.getElem?_cons_zero, List.getElem?_cons_succ] at x5 y5 x6 y6
 go_wp2_with fail
 refine (eqBs_yes _ _ _ _ _ _ h.s _ ((unhide HO) _ k2).s ((unhide HQ) _ k2).s (unhide HM).s (unhide HM).sz).mono ?_
 rintro e w3 ⟨rfl, b3⟩
 have k0 := k0.below b3 k0.lt
 have k1 := k1.below b3 k1.lt
 have k2 := k2.trans (b3.mono k2.size)
 clear b3
 have x7 := k0.cell 7
 have y7 := k1.cell 7
 simp only [List.getElem?_cons_zero, List.getElem?_cons_succ] at x7 y7
 go_wp2_with fail
 refine (eqB_yes _ _ _ _ _ _ h.r _ ((unhide HO) _ k2).r ((unhide HQ) _ k2).r (unhide HM).r).mono ?_
 rintro e w4 ⟨rfl, b4⟩
 have k0 := k0.below b4 k0.lt
 have k1 := k1.below b4 k1.lt
 have k2 := k2.trans (b4.mono k2.size)
 clear b4
 have x8 := k0.cell 8
 have y8 := k1.cell 8
 simp only [List.getElem?_cons_zero, List.getElem?_cons_succ] at x8 y8
 go_wp2_with fail
 refine (eqB_yes _ _ _ _ _ _ h.g _ ((unhide HO) _ k2).g ((unhide HQ) _ k2).g (unhide HM).g).mono ?_
 rintro e w5 ⟨rfl, b5⟩
 have k0 := k0.below b5 k0.lt
 have k1 := k1.below b5 k1.lt
 have k2 := k2.trans (b5.mono k2.size)
 clear b5
 have x9 := k0.cell 9
 have y9 := k1.cell 9
 simp only [List.getElem?_cons_zero, List.getElem?_cons_succ] at x9 y9
 go_wp2_with fail
 refine (eqB_yes _ _ _ _ _ _ h.e _ ((unhide HO) _ k2).e ((unhide HQ) _ k2).e (unhide HM).e).mono ?_
 rintro e w6 ⟨rfl, b6⟩
 have k0 := k0.below b6 k0.lt
 have k1 := k1.below b6 k1.lt
 have k2 := k2.trans (b6.mono k2.size)
 clear b6
 have x10 := k0.cell 10
 have y10 := k1.cell 10
 simp only [List.getElem?_cons_zero, List.getElem?_cons_succ] at x10 y10
 go_wp2_with fail
 refine (eqBs_yes _ _ _ _ _ _ h.k _ ((unhide HO) _ k2).k ((unhide HQ) _ k2).k (unhide HM).k (unhide HM).kz).mono ?_
 rintro e w7 ⟨rfl, b7⟩
 have k0 := k0.below b7 k0.lt
 have k1 := k1.below b7 k1.lt
 have k2 := k2.trans (b7.mono k2.size)
 clear b7
 go_wp2_with fail
 go_ret
 exact ⟨rfl, k2⟩

set_option maxRecDepth 100000

/-- The blocks from E on stay. -/
def Hi (E : Nat) (w w' : World) : Prop := ∀ g, E ≤ g → g < w.heap.size → w'.heap[g]? = w.heap[g]?

theorem Hi.sblk {E : Nat} {w w' : World} (h : Hi E w w') {g : Nat} {vs : List Value} {T : TypeId} (k : SBlk w g vs T) (hg : E ≤ g) : SBlk w' g vs T := (h g hg k.lt).trans k
theorem Hi.own {α β : Type} (K : Kd α β) {E B : Nat} {w w' : World} (h : Hi E w w') {d : Nat → Path} {p : Path} {e : β} {x : α} (k : K.Own w B d p e x) (hB : E ≤ B) : K.Own w' B d p e x :=
 K.frame k (fun g hg hb _ => h g (Nat.le_trans hB hb) hg)
theorem Hi.of {B E : Nat} {d : Nat → Path} {w w' : World} (h : OnlyP B d [0] w w') (hd : ∀ g, E ≤ g → d g = [1]) : Hi E w w' :=
 fun g hg hs => h.2 g hs (by rw [hd g hg]; decide)
theorem not_one {d : Nat → Path} {E : Nat} (hd : ∀ g, E ≤ g → d g = [1]) (n : Nat) (hn : E ≤ n) : ∀ g, n ≤ g → ¬ [0] <+: d g := fun g hg => by rw [hd g (Nat.le_trans hn hg)]; decide

/-- What is made has colours; what comes later has another one. -/
theorem Kd.recol1 {α β : Type} (K : Kd α β) {w : World} {B : Nat} {d : Nat → Path} {p : Path} {e : β} {x : α} (h : K.Own w B d p e x) : ∃ d' : Nat → Path, K.Own w B d' p e x ∧ ∀ g, w.heap.size ≤ g → d' g = [1] :=
 ⟨fun g => if g < w.heap.size then d g else [1], K.recolNew h (fun g hg => if_pos hg), fun g hg => if_neg (by omega)⟩

set_option maxRecDepth 100000

theorem opensRecent {H : Type} {enc : TypeId × Value → H} {w : World} {sp : Nat → Bool} {held : Bool} : Opens enc Tryz.prog w sp held (rcK) 84 := by
 intro fuel cs y hl h
 have hl' : cs.length = 2 := hl
 have f0 := opens_field (K := intK) Tryz.underlying84 h 0 _ rfl rfl rfl (by kernel_rfl) (opens_int Tryz.underlying2) (by show 0 + 1 ≤ cs.length; omega)
 have f1 := opens_field (K := bytesK) Tryz.underlying84 h 1 _ rfl rfl rfl (by kernel_rfl) (opens_bytes Tryz.underlying29 Tryz.underlying5 (by kernel_rfl)) (by show 1 + 1 ≤ cs.length; omega)
 match cs, hl' with
 | [c0, c1], _ =>
  replace f0 : ∃ e x, [c0] = (intK).vals e x ∧ (intK).Ok w e x := f0
  obtain ⟨e0, x0, q0, r0⟩ := f0
  replace f1 : ∃ e x, [c1] = (bytesK).vals e x ∧ (bytesK).Ok w e x := f1
  obtain ⟨e1, x1, q1, r1⟩ := f1
  refine ⟨(e0, e1), (x0, x1), ?_, r0, r1⟩
  show [c0, c1] = (intK).vals e0 x0 ++ ((bytesK).vals e1 x1)
  rw [← q0, ← q1]
  rfl

theorem opensVote {H : Type} {enc : TypeId × Value → H} {w : World} {sp : Nat → Bool} {held : Bool} : Opens enc Tryz.prog w sp held (vtK) 87 := by
 intro fuel cs y hl h
 have hl' : cs.length = 3 := hl
 have f0 := opens_field (K := bytesK) Tryz.underlying87 h 0 _ rfl rfl rfl (by kernel_rfl) (opens_bytes Tryz.underlying29 Tryz.underlying5 (by kernel_rfl)) (by show 0 + 1 ≤ cs.length; omega)
 have f1 := opens_field (K := bytesK) Tryz.underlying87 h 1 _ rfl rfl rfl (by kernel_rfl) (opens_bytes Tryz.underlying29 Tryz.underlying5 (by kernel_rfl)) (by show 1 + 1 ≤ cs.length; omega)
 have f2 := opens_field (K := boolK) Tryz.underlying87 h 2 _ rfl rfl rfl (by kernel_rfl) (opens_bool Tryz.underlying4) (by show 2 + 1 ≤ cs.length; omega)
 match cs, hl' with
 | [c0, c1, c2], _ =>
  replace f0 : ∃ e x, [c0] = (bytesK).vals e x ∧ (bytesK).Ok w e x := f0
  obtain ⟨e0, x0, q0, r0⟩ := f0
  replace f1 : ∃ e x, [c1] = (bytesK).vals e x ∧ (bytesK).Ok w e x := f1
  obtain ⟨e1, x1, q1, r1⟩ := f1
  replace f2 : ∃ e x, [c2] = (boolK).vals e x ∧ (boolK).Ok w e x := f2
  obtain ⟨e2, x2, q2, r2⟩ := f2
  refine ⟨(e0, e1, e2), (x0, x1, x2), ?_, r0, r1, r2⟩
  show [c0, c1, c2] = (bytesK).vals e0 x0 ++ ((bytesK).vals e1 x1 ++ ((boolK).vals e2 x2))
  rw [← q0, ← q1, ← q2]
  rfl

theorem opensSnap {H : Type} {enc : TypeId × Value → H} {w : World} {sp : Nat → Bool} {held : Bool} : Opens enc Tryz.prog w sp held (SNK) 28 := by
 intro fuel cs y hl h
 have hl' : cs.length = 4 := hl
 have f0 := opens_field (K := intK) Tryz.underlying28 h 0 _ rfl rfl rfl (by kernel_rfl) (opens_int Tryz.underlying2) (by show 0 + 1 ≤ cs.length; omega)
 have f1 := opens_field (K := rowK bytesK 29) Tryz.underlying28 h 1 _ rfl rfl rfl (by kernel_rfl) (opens_row Tryz.underlying24 (by kernel_rfl) (by decide) (opens_bytes Tryz.underlying29 Tryz.underlying5 (by kernel_rfl))) (by show 1 + 1 ≤ cs.length; omega)
 have f2 := opens_field (K := rowK rcK 93) Tryz.underlying28 h 2 _ rfl rfl rfl (by kernel_rfl) (opens_row Tryz.underlying25 (by kernel_rfl) (by decide) opensRecent) (by show 2 + 1 ≤ cs.length; omega)
 have f3 := opens_field (K := rowK vtK 97) Tryz.underlying28 h 3 _ rfl rfl rfl (by kernel_rfl) (opens_row Tryz.underlying26 (by kernel_rfl) (by decide) opensVote) (by show 3 + 1 ≤ cs.length; omega)
 match cs, hl' with
 | [c0, c1, c2, c3], _ =>
  replace f0 : ∃ e x, [c0] = (intK).vals e x ∧ (intK).Ok w e x := f0
  obtain ⟨e0, x0, q0, r0⟩ := f0
  replace f1 : ∃ e x, [c1] = (rowK bytesK 29).vals e x ∧ (rowK bytesK 29).Ok w e x := f1
  obtain ⟨e1, x1, q1, r1⟩ := f1
  replace f2 : ∃ e x, [c2] = (rowK rcK 93).vals e x ∧ (rowK rcK 93).Ok w e x := f2
  obtain ⟨e2, x2, q2, r2⟩ := f2
  replace f3 : ∃ e x, [c3] = (rowK vtK 97).vals e x ∧ (rowK vtK 97).Ok w e x := f3
  obtain ⟨e3, x3, q3, r3⟩ := f3
  refine ⟨(e0, e1, e2, e3), (x0, x1, x2, x3), ?_, r0, r1, r2, r3⟩
  show [c0, c1, c2, c3] = (intK).vals e0 x0 ++ ((rowK bytesK 29).vals e1 x1 ++ ((rowK rcK 93).vals e2 x2 ++ ((rowK vtK 97).vals e3 x3)))
  rw [← q0, ← q1, ← q2, ← q3]
  rfl

theorem open_snap {H : Type} {enc : TypeId × Value → H} {w : World} {sp : Nat → Bool} {held : Bool} {v : Value} {d : DataW H} {ps : List MemPlace} (hv : ∃ cs, v = .agg cs ∧ cs.size = Tryz.prog.cellsOf 28) (h : DataW.Trod enc Tryz.prog w 0 sp held 28 v d ps) :
    ∃ e x, v = .agg (snvals e x) ∧ SNK.Ok w e x := opens_arg opensSnap hv (by kernel_rfl) h

end Go.Proofs.YtdmcmlcmgbbclaaGreat
