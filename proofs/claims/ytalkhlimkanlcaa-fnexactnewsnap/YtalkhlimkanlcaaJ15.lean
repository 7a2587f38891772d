/- What is proved here: the contracts of the laws' helper functions over a SnapResult that has signers alone (eqSnapResult, markSnapResult, heldSnapResult). -/
import Derived.Test.YtalkhlimkanlcaaJ14
import Derived.Test.YtalkhlimkanlcaaJ6
import Derived.Test.YtalkhlimkanlcaaChecked
import Derived.Test.YtalkhlimkanlcaaJ3
import Derived.WalkKit
import Derived.WalkLawsBesides
import Derived.WalkSmall
import Derived.Deep.DeepCutAuto
import Derived.KernelRfl
import Derived.WalkSpells
namespace Go.Proofs.Ytalkhlimkanlcaa
open Go.RowKit
set_option linter.unusedVariables false
set_option maxRecDepth 100000

/-- The four cells of a snapshot that has signers alone. -/
def nqvals (s : Sl) : Array Value := #[.int .i64 0, .slice s.a s.n s.c, .slice none 0 0, .slice none 0 0]

theorem nscells {W : World} {g : Nat} {c : Int} {s : Sl} {T : TypeId} (b : SBlk W g (nsvals c s).toList T) : W.cell? ⟨g, 0, none⟩ = some (.int .i64 c) ∧ W.cell? ⟨g, 1, none⟩ = some (.int .i64 0) ∧ W.cell? ⟨g, 2, none⟩ = some (.slice s.a s.n s.c) ∧ W.cell? ⟨g, 3, none⟩ = some (.slice none 0 0) ∧ W.cell? ⟨g, 4, none⟩ = some (.slice none 0 0) := ⟨b.cell 0, b.cell 1, b.cell 2, b.cell 3, b.cell 4⟩
theorem nqcells {W : World} {g : Nat} {s : Sl} {T : TypeId} (b : SBlk W g (nqvals s).toList T) : W.cell? ⟨g, 0, none⟩ = some (.int .i64 0) ∧ W.cell? ⟨g, 1, none⟩ = some (.slice s.a s.n s.c) ∧ W.cell? ⟨g, 2, none⟩ = some (.slice none 0 0) ∧ W.cell? ⟨g, 3, none⟩ = some (.slice none 0 0) := ⟨b.cell 0, b.cell 1, b.cell 2, b.cell 3⟩

theorem markRc_nil (k : Int) (w : World) : Calls Try.prog 88 #[.slice none 0 0, .int .i64 k] w fun e w' => e = .returned (.int .i64 k) ∧ w' = w := by
  go_enter Try.func88, Try.ntmps88
  go_wp2_with fail
  refine wp_loop_rounds 1 ?_
  rw [rounds_succ]
  go_wp2_with fail
  go_ret
  exact ⟨rfl, rfl⟩

theorem markVt_nil (k : Int) (w : World) : Calls Try.prog 89 #[.slice none 0 0, .int .i64 k] w fun e w' => e = .returned (.int .i64 k) ∧ w' = w := by
  go_enter Try.func89, Try.ntmps89
  go_wp2_with fail
  refine wp_loop_rounds 1 ?_
  rw [rounds_succ]
  go_wp2_with fail
  go_ret
  exact ⟨rfl, rfl⟩

theorem heldRc_nil (k : Int) (w : World) : Calls Try.prog 91 #[.slice none 0 0, .int .i64 k] w fun e w' => e = .returned (.int .i64 k) ∧ w' = w := by
  go_enter Try.func91, Try.ntmps91
  go_wp2_with fail
  refine wp_loop_rounds 1 ?_
  rw [rounds_succ]
  go_wp2_with fail
  go_ret
  exact ⟨rfl, rfl⟩

theorem heldVt_nil (k : Int) (w : World) : Calls Try.prog 92 #[.slice none 0 0, .int .i64 k] w fun e w' => e = .returned (.int .i64 k) ∧ w' = w := by
  go_enter Try.func92, Try.ntmps92
  go_wp2_with fail
  refine wp_loop_rounds 1 ?_
  rw [rounds_succ]
  go_wp2_with fail
  go_ret
  exact ⟨rfl, rfl⟩

set_option maxHeartbeats 4000000 in
theorem markSnN_col (B : Nat) (d : Nat → Nat) (s : Sl) (zss : List (List Int)) (k0 : Int) (w : World) (h : CS w B d 6 8 s zss) (hB : B ≤ w.heap.size) (hl : zss.length ≤ 1048576) (hs : bsum zss ≤ 1048576) (hk0 : 0 ≤ k0) (hk1 : k0 ≤ 1048576) (hd : ∀ g, w.heap.size ≤ g → d g = 9) :
    Calls Try.prog 50 #[.agg (nqvals s), .int .i64 k0] w fun e w' => e = .returned (.int .i64 (k0 + (bsum zss : Nat))) ∧ CS w' B d 6 8 s (mkss k0 zss) ∧ OnlyD B d (fun q => ∃ i, q = 8 + 3 * i) w w' := by
  have kb := SBlk.new w (nqvals s) 32
  have bb := below_alloc w (.cells (nqvals s) 32)
  obtain ⟨W0, eb⟩ : ∃ W0, w.alloc (.cells (nqvals s) 32) = W0 := ⟨_, rfl⟩
  rw [eb] at kb bb
  have D1 := hide (markSS_col B 6 8 d s zss k0 W0 (h.below bb (Nat.le_refl _)) (fun i => by omega) (Nat.le_trans hB bb.size) hl hs hk0 (by omega))
  have on := hide (OnlyD.below (B := B) (d := d) (S := fun q => ∃ i, q = 8 + 3 * i) bb (Nat.le_refl _) hB)
  obtain ⟨u0, u1, u2, u3⟩ := nqcells kb
  have EB := hide eb
  have HK := hide kb
  clear eb kb bb h
  unfold nqvals at EB ⊢
  generalize bsum zss = tot at D1 hs ⊢
  obtain ⟨K, eK⟩ : ∃ K : Int, K = k0 + (tot : Nat) := ⟨_, rfl⟩
  rw [← eK] at D1 ⊢
  clear eK hs
  go_enter Try.func50, Try.ntmps50
  go_upto_region 1 with fail
  rw [unhide EB]
  clear EB
  go_wp2_with fail
  refine (unhide D1).mono ?_
  rintro e w2 ⟨rfl, c2, o2⟩
  have k2 := o2.sblk (unhide HK) (by rw [hd _ (Nat.le_refl _)]; rintro ⟨i, hi⟩; omega)
  obtain ⟨u0, u1, u2, u3⟩ := nqcells k2
  have HO := hide ((unhide on).trans o2)
  have HC := hide c2
  have HR := hide (fun k => markRc_nil k w2)
  have HV := hide (fun k => markVt_nil k w2)
  clear o2 c2 k2 hd
  go_wp2_with fail
  refine ((unhide HR) _).mono ?_
  rintro e w3 ⟨rfl, rfl⟩
  go_wp2_with fail
  refine ((unhide HV) _).mono ?_
  rintro e w4 ⟨rfl, rfl⟩
  go_wp2_with fail
  go_ret
  exact ⟨rfl, unhide HC, unhide HO⟩

set_option maxHeartbeats 4000000 in
theorem markNR_col (q : Int) (B : Nat) (d : Nat → Nat) (s : Sl) (zss : List (List Int)) (k0 : Int) (w : World) (h : CS w B d 6 8 s zss) (hB : B ≤ w.heap.size) (hl : zss.length ≤ 1048576) (hs : bsum zss ≤ 1048576) (hk0 : 0 ≤ k0) (hk1 : k0 ≤ 1048576) (hd : ∀ g, w.heap.size ≤ g → d g = 9) :
    Calls Try.prog 21 #[.agg (nsvals q s), .int .i64 k0] w fun e w' => e = .returned (.int .i64 (k0 + (bsum zss : Nat))) ∧ CS w' B d 6 8 s (mkss k0 zss) ∧ OnlyD B d (fun q => ∃ i, q = 8 + 3 * i) w w' := by
  have kb := SBlk.new w (nsvals q s) 38
  have bb := below_alloc w (.cells (nsvals q s) 38)
  obtain ⟨W0, eb⟩ : ∃ W0, w.alloc (.cells (nsvals q s) 38) = W0 := ⟨_, rfl⟩
  rw [eb] at kb bb
  have D1 := hide (markSnN_col B d s zss k0 W0 (h.below bb (Nat.le_refl _)) (Nat.le_trans hB bb.size) hl hs hk0 (by omega) (fun g hg => hd g (Nat.le_trans bb.size hg)))
  have on := hide (OnlyD.below (B := B) (d := d) (S := fun q => ∃ i, q = 8 + 3 * i) bb (Nat.le_refl _) hB)
  obtain ⟨u0, u1, u2, u3, u4⟩ := nscells kb
  have EB := hide eb
  clear eb kb bb h hd
  unfold nsvals at EB ⊢
  unfold nqvals at D1
  generalize bsum zss = tot at D1 hs ⊢
  go_enter Try.func21, Try.ntmps21
  go_upto_region 1 with fail
  rw [unhide EB]
  clear EB
  go_wp2_with fail
  refine (unhide D1).mono ?_
  rintro e w2 ⟨rfl, c2, o2⟩
  have HO := hide ((unhide on).trans o2)
  have HC := hide c2
  clear o2 c2
  go_wp2_with fail
  go_ret
  exact ⟨rfl, unhide HC, unhide HO⟩

set_option maxHeartbeats 4000000 in
theorem heldSnN_any (s : Sl) (zss : List (List Int)) (k0 : Int) (w : World) (h : BsRow w s.a s.n (mkss k0 zss)) (hl : zss.length ≤ 1048576) (hs : bsum zss ≤ 1048576) (hk0 : 0 ≤ k0) (hk1 : k0 ≤ 1048576) :
    Calls Try.prog 51 #[.agg (nqvals s), .int .i64 k0] w fun e w' => e = .returned (.int .i64 (k0 + (bsum zss : Nat))) ∧ Below w.heap.size w w' := by
  have kb := SBlk.new w (nqvals s) 32
  have bb := below_alloc w (.cells (nqvals s) 32)
  obtain ⟨W0, eb⟩ : ∃ W0, w.alloc (.cells (nqvals s) 32) = W0 := ⟨_, rfl⟩
  rw [eb] at kb bb
  have D1 := hide (heldSS_any s.a s.n s.c zss k0 W0 (h.below bb (Nat.le_refl _)) hl hs hk0 (by omega))
  have HR := hide (fun k => heldRc_nil k W0)
  have HV := hide (fun k => heldVt_nil k W0)
  have HBB := hide bb
  obtain ⟨u0, u1, u2, u3⟩ := nqcells kb
  have EB := hide eb
  clear eb kb bb h
  unfold nqvals at EB ⊢
  generalize bsum zss = tot at D1 hs ⊢
  obtain ⟨K, eK⟩ : ∃ K : Int, K = k0 + (tot : Nat) := ⟨_, rfl⟩
  have dK : decide (K < 0) = false := decide_eq_false (by omega)
  rw [← eK] at D1 ⊢
  clear eK hs
  go_enter Try.func51, Try.ntmps51
  go_upto_region 1 with fail
  rw [unhide EB]
  clear EB
  go_wp2_with fail
  refine (unhide D1).mono ?_
  rintro e w2 ⟨rfl, rfl⟩
  go_wp2_with fail
  refine ((unhide HR) _).mono ?_
  rintro e w3 ⟨rfl, rfl⟩
  go_wp2_with fail
  refine ((unhide HV) _).mono ?_
  rintro e w4 ⟨rfl, rfl⟩
  go_wp2_with fail
  go_ret
  exact ⟨rfl, unhide HBB⟩

set_option maxHeartbeats 4000000 in
theorem heldNR_any (q : Int) (s : Sl) (zss : List (List Int)) (k0 : Int) (w : World) (h : BsRow w s.a s.n (mkss k0 zss)) (hl : zss.length ≤ 1048576) (hs : bsum zss ≤ 1048576) (hk0 : 0 ≤ k0) (hk1 : k0 ≤ 1048576) :
    Calls Try.prog 22 #[.agg (nsvals q s), .int .i64 k0] w fun e w' => e = .returned (.int .i64 (k0 + (bsum zss : Nat))) ∧ Below w.heap.size w w' := by
  have kb := SBlk.new w (nsvals q s) 38
  have bb := below_alloc w (.cells (nsvals q s) 38)
  obtain ⟨W0, eb⟩ : ∃ W0, w.alloc (.cells (nsvals q s) 38) = W0 := ⟨_, rfl⟩
  rw [eb] at kb bb
  have D1 := hide (heldSnN_any s zss k0 W0 (h.below bb (Nat.le_refl _)) hl hs hk0 (by omega))
  have HBB := hide bb
  obtain ⟨u0, u1, u2, u3, u4⟩ := nscells kb
  have EB := hide eb
  clear eb kb bb h
  unfold nsvals at EB ⊢
  unfold nqvals at D1
  generalize bsum zss = tot at D1 hs ⊢
  obtain ⟨K, eK⟩ : ∃ K : Int, K = k0 + (tot : Nat) := ⟨_, rfl⟩
  have dK : decide (K < 0) = false := decide_eq_false (by omega)
  rw [← eK] at D1 ⊢
  clear eK hs
  go_enter Try.func22, Try.ntmps22
  go_upto_region 1 with fail
  rw [unhide EB]
  clear EB
  go_wp2_with fail
  refine (unhide D1).mono ?_
  rintro e w2 ⟨rfl, b2⟩
  have HB2 := hide ((unhide HBB).trans (b2.mono (unhide HBB).size))
  clear b2
  go_wp2_with fail
  go_ret
  exact ⟨rfl, unhide HB2⟩

set_option maxHeartbeats 4000000 in
theorem eqNR_same (c : Int) (s t : Sl) (zss : List (List Int)) (w : World) (o : RowOk bytesK w s zss) (q : RowOk bytesK w t zss) (m : SnSm (0, zss, [], [])) :
    Calls Try.prog 18 #[.agg (nsvals c s), .agg (nsvals c t)] w fun e w' => e = .returned (.bool true) ∧ Below w.heap.size w w' := by
  have ka := SBlk.new w (nsvals c s) 38
  have ba := below_alloc w (.cells (nsvals c s) 38)
  have za : (w.alloc (.cells (nsvals c s) 38)).heap.size = w.heap.size + 1 := by simp
  obtain ⟨W0, ea⟩ : ∃ W0, w.alloc (.cells (nsvals c s) 38) = W0 := ⟨_, rfl⟩
  rw [ea] at ka ba za
  have kb := SBlk.new W0 (nsvals c t) 38
  have k1 := ka.next (.cells (nsvals c t) 38)
  have bb := ba.trans ((below_alloc W0 (.cells (nsvals c t) 38)).mono ba.size)
  obtain ⟨W1, eb⟩ : ∃ W1, W0.alloc (.cells (nsvals c t) 38) = W1 := ⟨_, rfl⟩
  rw [za] at kb
  rw [eb] at kb k1 bb
  have nr : RowOk rcK W1 ⟨none, 0, 0⟩ [] := ⟨rfl, Nat.le_refl _, Nat.zero_le _, fun _ => rfl, fun h => absurd h (by simp)⟩
  have nv : RowOk vtK W1 ⟨none, 0, 0⟩ [] := ⟨rfl, Nat.le_refl _, Nat.zero_le _, fun _ => rfl, fun h => absurd h (by simp)⟩
  have os : SNK.Ok W1 ((), s, ⟨none, 0, 0⟩, ⟨none, 0, 0⟩) (0, zss, [], []) := ⟨(show in64 0 by unfold in64; omega), RowOk.below o bb (Nat.le_refl _), nr, nv⟩
  have ot : SNK.Ok W1 ((), t, ⟨none, 0, 0⟩, ⟨none, 0, 0⟩) (0, zss, [], []) := ⟨(show in64 0 by unfold in64; omega), RowOk.below q bb (Nat.le_refl _), nr, nv⟩
  have D1 := hide (eqSnap_any _ _ _ _ W1 os ot m m)
  rw [snSame_self] at D1
  have HBB := hide bb
  have h1 : (c != c) = false := by simp
  obtain ⟨u0, u1, u2, u3, u4⟩ := nscells k1
  obtain ⟨v0, v1, v2, v3, v4⟩ := nscells kb
  have EA := hide ea
  have EB := hide eb
  clear ea eb ka kb k1 ba bb o q za os ot nr nv m
  unfold nsvals at EA EB ⊢
  unfold snvals at D1
  go_enter Try.func18, Try.ntmps18
  go_upto_region 1 with fail
  rw [unhide EA, unhide EB]
  clear EA EB
  go_wp2_with fail
  refine (unhide D1).mono ?_
  rintro e w2 ⟨rfl, b2⟩
  have HB2 := hide ((unhide HBB).trans (b2.mono (unhide HBB).size))
  clear b2
  go_wp2_with fail
  go_ret
  exact ⟨rfl, unhide HB2⟩

end Go.Proofs.Ytalkhlimkanlcaa

/- What is proved here: the contracts of the laws' helper functions that mark a header that a call made, and look for the marks later (markHeader, heldHeader). -/
namespace Go.Proofs.Ytalkhlimkanlcaa
open Go.RowKit
set_option linter.unusedVariables false
set_option maxRecDepth 100000

end Go.Proofs.Ytalkhlimkanlcaa

/- What is proved here: the contract of the laws' helper function eqHeader, for two that are the same: it answers true. -/
namespace Go.Proofs.Ytalkhlimkanlcaa
open Go.RowKit
set_option linter.unusedVariables false
set_option maxRecDepth 100000

theorem ne64 (n : Int) : (n != n) = false := by simp

theorem eqB_yes (a b : Option Addr) (la ca lb cb : Nat) (xs : List Int) (w : World) (ha : BRow w a la xs) (hb : BRow w b lb xs) (hl : xs.length ≤ 1048576) :
    Calls Try.prog 27 #[.slice a la ca, .slice b lb cb] w fun e w' => e = .returned (.bool true) ∧ Below w.heap.size w w' :=
  (eqByteS_any a b la ca lb cb xs xs w ha hb (by rw [← ha.1]; exact hl) (by rw [← hb.1]; exact hl)).mono fun e w' ⟨he, n, hw⟩ => ⟨by rw [he, sameB_self], by rw [hw]; exact below_drewN (Below.refl _ _) n⟩

theorem eqBs_yes (a b : Option Addr) (la ca lb cb : Nat) (xs : List (List Int)) (w : World) (ha : BsRow w a la xs) (hb : BsRow w b lb xs) (hl : xs.length ≤ 1048576) (hz : ∀ z ∈ xs, z.length ≤ 1048576) :
    Calls Try.prog 19 #[.slice a la ca, .slice b lb cb] w fun e w' => e = .returned (.bool true) ∧ Below w.heap.size w w' :=
  (eqByteSS_any a b la ca lb cb xs xs w ha hb (by rw [← ha.1]; exact hl) (by rw [← hb.1]; exact hl) hz hz).mono fun e w' ⟨he, n, hw⟩ => ⟨by rw [he, sameBs_self], by rw [hw]; exact below_drewN (Below.refl _ _) n⟩

theorem two_blk (w : World) (vs us : Array Value) (T S : TypeId) : SBlk ((w.alloc (.cells vs T)).alloc (.cells us S)) w.heap.size vs.toList T ∧ SBlk ((w.alloc (.cells vs T)).alloc (.cells us S)) (w.heap.size + 1) us.toList S ∧ Below w.heap.size w ((w.alloc (.cells vs T)).alloc (.cells us S)) ∧ ((w.alloc (.cells vs T)).alloc (.cells us S)).heap.size = w.heap.size + 2 := by
  refine ⟨?_, ?_, ((Below.refl _ _).alloc (Nat.le_refl _) _).alloc (by simp) _, by simp⟩
  · exact (SBlk.new w vs T).next _
  · have h := SBlk.new (w.alloc (.cells vs T)) us S
    rwa [show (w.alloc (.cells vs T)).heap.size = w.heap.size + 1 by simp] at h

end Go.Proofs.Ytalkhlimkanlcaa

/- What is proved here: the twelve cells of a HeaderResult, and the contracts of the laws' helper functions over one (eqHeaderResult, markHeaderResult, heldHeaderResult). -/
namespace Go.Proofs.Ytalkhlimkanlcaa
open Go.RowKit
set_option linter.unusedVariables false
set_option maxRecDepth 100000

/-- The twelve cells of a HeaderResult. -/
def hrvals (c : Int) (x : HS) (h : Hd) : Array Value := #[.int .i64 c, .slice x.p.a x.p.n x.p.c, .int .i64 h.n1, .int .i64 h.n2, .int .i64 h.n3, .slice x.t.a x.t.n x.t.c, .int .i64 h.n5, .slice x.s.a x.s.n x.s.c, .slice x.r.a x.r.n x.r.c, .slice x.g.a x.g.n x.g.c, .slice x.e.a x.e.n x.e.c, .slice x.k.a x.k.n x.k.c]

theorem hrcells {W : World} {g : Nat} {c : Int} {x : HS} {h : Hd} {T : TypeId} (b : SBlk W g (hrvals c x h).toList T) : W.cell? ⟨g, 0, none⟩ = some (.int .i64 c) ∧ W.cell? ⟨g, 1, none⟩ = some (.slice x.p.a x.p.n x.p.c) ∧ W.cell? ⟨g, 2, none⟩ = some (.int .i64 h.n1) ∧ W.cell? ⟨g, 3, none⟩ = some (.int .i64 h.n2) ∧ W.cell? ⟨g, 4, none⟩ = some (.int .i64 h.n3) ∧ W.cell? ⟨g, 5, none⟩ = some (.slice x.t.a x.t.n x.t.c) ∧ W.cell? ⟨g, 6, none⟩ = some (.int .i64 h.n5) ∧ W.cell? ⟨g, 7, none⟩ = some (.slice x.s.a x.s.n x.s.c) ∧ W.cell? ⟨g, 8, none⟩ = some (.slice x.r.a x.r.n x.r.c) ∧ W.cell? ⟨g, 9, none⟩ = some (.slice x.g.a x.g.n x.g.c) ∧ W.cell? ⟨g, 10, none⟩ = some (.slice x.e.a x.e.n x.e.c) ∧ W.cell? ⟨g, 11, none⟩ = some (.slice x.k.a x.k.n x.k.c) :=
  ⟨b.cell 0, b.cell 1, b.cell 2, b.cell 3, b.cell 4, b.cell 5, b.cell 6, b.cell 7, b.cell 8, b.cell 9, b.cell 10, b.cell 11⟩

/-- No header. -/
def hd0 : Hd := ⟨[], 0, 0, 0, [], 0, [], [], [], [], []⟩
def hs0 : HS := ⟨⟨none, 0, 0⟩, ⟨none, 0, 0⟩, ⟨none, 0, 0⟩, ⟨none, 0, 0⟩, ⟨none, 0, 0⟩, ⟨none, 0, 0⟩, ⟨none, 0, 0⟩⟩

theorem ch0 (w : World) (B : Nat) (d : Nat → Nat) : CH w B d hs0 hd0 := ⟨CB.nil _ _ _ _, CB.nil _ _ _ _, CS.nil _ _ _ _ _, CB.nil _ _ _ _, CB.nil _ _ _ _, CB.nil _ _ _ _, CS.nil _ _ _ _ _⟩

end Go.Proofs.Ytalkhlimkanlcaa

/- What is proved here: plain facts on a header's marks, and that what is written elsewhere leaves a header. -/
namespace Go.Proofs.Ytalkhlimkanlcaa
open Go.RowKit
set_option linter.unusedVariables false
set_option maxRecDepth 100000

theorem CB.onlyH {B B' C j : Nat} {d : Nat → Nat} {w w' : World} {s : Sl} {z : List Int} (h : CB w B d j s z) (o : OnlyH B' C w w') (hC : C ≤ B) : CB w' B d j s z := ⟨h.len, h.rng, o.own h.own hC, h.col⟩

theorem CS.onlyH {B B' C r c : Nat} {d : Nat → Nat} {w w' : World} {s : Sl} {zss : List (List Int)} (h : CS w B d r c s zss) (o : OnlyH B' C w w') (hC : C ≤ B) : CS w' B d r c s zss := by
  obtain ⟨h1, es, h2, h3, h4, h5⟩ := h
  exact ⟨h1, es, h2, o.own h3 hC, h4, fun i e z he hz => (h5 i e z he hz).onlyH o hC⟩

theorem CH.onlyH {B B' C : Nat} {d : Nat → Nat} {w w' : World} {x : HS} {h : Hd} (q : CH w B d x h) (o : OnlyH B' C w w') (hC : C ≤ B) : CH w' B d x h :=
  ⟨q.p.onlyH o hC, q.t.onlyH o hC, q.s.onlyH o hC, q.r.onlyH o hC, q.g.onlyH o hC, q.e.onlyH o hC, q.k.onlyH o hC⟩

theorem mkss_mem : ∀ (zss : List (List Int)) (k : Int) (z : List Int), z ∈ mkss k zss → ∃ y ∈ zss, z.length = y.length
  | [], k, z, h => by simp [mkss] at h
  | a :: r, k, z, h => by
    rw [mkss] at h
    rcases List.mem_cons.1 h with e | e
    · exact ⟨a, by simp, by rw [e, marks_length]⟩
    · obtain ⟨y, hy, he⟩ := mkss_mem r _ z e
      exact ⟨y, by simp [hy], he⟩

theorem mkH_sm {h : Hd} (k : Int) (m : HSm h) : HSm (mkH k h) := by
  refine ⟨?_, ?_, ?_, fun z hz => ?_, ?_, ?_, ?_, ?_, fun z hz => ?_⟩
  · show (marks _ _).length ≤ _; rw [marks_length]; exact m.p
  · show (marks _ _).length ≤ _; rw [marks_length]; exact m.t
  · show (mkss _ _).length ≤ _; rw [mkss_length]; exact m.s
  · obtain ⟨y, hy, he⟩ := mkss_mem _ _ z hz; rw [he]; exact m.sz y hy
  · show (marks _ _).length ≤ _; rw [marks_length]; exact m.r
  · show (marks _ _).length ≤ _; rw [marks_length]; exact m.g
  · show (marks _ _).length ≤ _; rw [marks_length]; exact m.e
  · show (mkss _ _).length ≤ _; rw [mkss_length]; exact m.k
  · obtain ⟨y, hy, he⟩ := mkss_mem _ _ z hz; rw [he]; exact m.kz y hy

end Go.Proofs.Ytalkhlimkanlcaa

/- What is proved here: plain facts for the law over NewSnap: the answer's sizes, what a marked answer reads as. -/
namespace Go.Proofs.Ytalkhlimkanlcaa
open Go.RowKit
set_option linter.unusedVariables false
set_option maxRecDepth 100000

/-- What is wanted of an answer's lists. -/
structure NsSm (zss : List (List Int)) : Prop where
  l : zss.length ≤ 1048576
  z : ∀ z ∈ zss, z.length ≤ 1048576
  t : bsum zss ≤ 1048576

theorem nsAns_sm {zss : List (List Int)} (h : NsSm zss) : NsSm (nsAns zss) := by
  unfold nsAns
  split
  · exact h
  · exact ⟨by simp, fun z hz => by simp at hz, by simp [bsum]⟩

theorem NsSm.sn {zss : List (List Int)} (h : NsSm zss) : SnSm (0, zss, [], []) := ⟨h.l, h.z, by simp, fun y hy => by simp at hy, by simp, fun y hy => by simp at hy⟩

theorem CS.nrow {B r c : Nat} {d : Nat → Nat} {w : World} {s : Sl} {zss : List (List Int)} (h : CS w B d r c s zss) (hr : ∀ i, r ≠ c + 3 * i) : RowOk bytesK w s zss := by
  obtain ⟨d', h'⟩ := row_of_cs h hr []
  exact (rowK bytesK 45).ok h'

theorem CS.nrowM {B r c : Nat} {d : Nat → Nat} {w : World} {s : Sl} {zss : List (List Int)} (h : CS w B d r c s zss) (hr : ∀ i, r ≠ c + 3 * i) : BsRow w s.a s.n zss := bs_of_row (h.nrow hr)

theorem toBs_ns (s : Sl) (zss : List (List Int)) (w : World) (o : RowOk bytesK w s zss) (m : NsSm zss) :
    Calls Try.prog 16 #[.slice s.a s.n s.c] w fun e w' => e = .returned (.slice (some ⟨w.heap.size, 0, none⟩) zss.length zss.length) ∧ OBss w' w.heap.size zss 45 w'.heap.size ∧ RowOk bytesK w' ⟨some ⟨w.heap.size, 0, none⟩, zss.length, zss.length⟩ zss ∧ Below w.heap.size w w' := by
  have hb := bs_of_row o
  have hn : s.n = zss.length := o.len
  refine (toByteSS_any s.a s.n s.c zss w hb (by have := m.l; omega) m.z).mono ?_
  rintro e w' ⟨rfl, h1, h2⟩
  obtain ⟨d, hd⟩ := row_of_obss h1 (Nat.le_refl _) hb.bytes m.l []
  exact ⟨by rw [hn], h1, (rowK bytesK 45).ok hd, h2⟩

end Go.Proofs.Ytalkhlimkanlcaa
