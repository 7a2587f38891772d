/- What is proved here: the contracts of the laws' helper functions over a TurnResult (eqTurnResult, markTurnResult, heldTurnResult). -/
import Derived.Test.YtldiilmpmcbjkaaGreatDoorJ27
import Derived.Test.YtldiilmpmcbjkaaGreatDoorJ26
import Derived.Test.YtldiilmpmcbjkaaGreatDoorJ15
import Derived.Test.YtldiilmpmcbjkaaGreatDoorJ5
import Derived.Test.YtldiilmpmcbjkaaGreatDoorJ14
namespace Go.Proofs.YtldiilmpmcbjkaaGreatDoor
open Go.RowKit
set_option linter.unusedVariables false
set_option maxRecDepth 100000

theorem new3 (w : World) (x y z : Value) (t : TypeId) : Below w.heap.size w (w.alloc (Obj.cells #[x, y, z] t)) ∧ w.heap.size < (w.alloc (Obj.cells #[x, y, z] t)).heap.size ∧
    (w.alloc (Obj.cells #[x, y, z] t)).cell? ⟨w.heap.size, 0, none⟩ = some x ∧ (w.alloc (Obj.cells #[x, y, z] t)).cell? ⟨w.heap.size, 1, none⟩ = some y ∧ (w.alloc (Obj.cells #[x, y, z] t)).cell? ⟨w.heap.size, 2, none⟩ = some z :=
  ⟨below_alloc w _, by simp, by simp, by simp, by simp⟩
theorem cell_of_block {w w' : World} {g : Nat} (h : w'.heap[g]? = w.heap[g]?) (i : Nat) : w'.cell? ⟨g, i, none⟩ = w.cell? ⟨g, i, none⟩ := World.cell?_of_block (w := w) h
theorem tc_len (x : St) (a b : Int) : (tcBack x a b).length ≤ 24 ∧ (tcForth x a b).length ≤ 24 := by
  by_cases hz : plsCode x [a, b] = 0
  · obtain ⟨k, _, l1, l2, _⟩ := tc_facts hz
    unfold tcBack tcForth
    rw [if_pos hz, if_pos hz, List.length_reverse, List.length_drop, List.length_drop]
    omega
  · unfold tcBack tcForth
    rw [if_neg hz, if_neg hz]
    exact ⟨Nat.zero_le _, Nat.zero_le _⟩

set_option maxHeartbeats 4000000 in
theorem eqTurn_same (c : Int) (a1 a2 b1 b2 : Option Addr) (n1 n2 c1 c2 e1 e2 : Nat) (T1 T2 : List Int) (w : World) (h1 : IRow w a1 n1 T1) (h2 : IRow w a2 n2 T2) (q1 : IRow w b1 n1 T1) (q2 : IRow w b2 n2 T2) (l1 : n1 ≤ 1048576) (l2 : n2 ≤ 1048576) :
    Calls Tryz.prog 8 #[.agg #[.int .i64 c, .slice a1 n1 c1, .slice a2 n2 c2], .agg #[.int .i64 c, .slice b1 n1 e1, .slice b2 n2 e2]] w fun e w' => e = .returned (.bool true) ∧ Below w.heap.size w w' := by
  obtain ⟨k0, k1, k2, k3⟩ := two_blk w #[.int .i64 c, .slice a1 n1 c1, .slice a2 n2 c2] #[.int .i64 c, .slice b1 n1 e1, .slice b2 n2 e2] 30 30
  obtain ⟨W0, e0⟩ : ∃ W, (w.alloc (.cells #[.int .i64 c, .slice a1 n1 c1, .slice a2 n2 c2] 30)).alloc (.cells #[.int .i64 c, .slice b1 n1 e1, .slice b2 n2 e2] 30) = W := ⟨_, rfl⟩
  rw [e0] at k0 k1 k2 k3
  have s1 : sameB T1 T1 = true := by simp [sameB]
  have s2 : sameB T2 T2 = true := by simp [sameB]
  have hc : (c != c) = false := by simp
  have D1 := hide (eqInt64S_any _ _ _ c1 _ e1 T1 T1 W0 (h1.below k2 (Nat.le_refl _)) (q1.below k2 (Nat.le_refl _)) l1 l1)
  rw [s1] at D1
  have D2 := hide (fun (n : Nat) => eqInt64S_any _ _ _ c2 _ e2 T2 T2 (W0.drewN n) ((h2.below k2 (Nat.le_refl _)).below (below_drewN (Below.refl W0.heap.size W0) n) (Nat.le_refl _)) ((q2.below k2 (Nat.le_refl _)).below (below_drewN (Below.refl W0.heap.size W0) n) (Nat.le_refl _)) l2 l2)
  rw [s2] at D2
  have HK := hide (fun (n : Nat) => And.intro (k0.below (below_drewN (Below.refl W0.heap.size W0) n) k0.lt) (k1.below (below_drewN (Below.refl W0.heap.size W0) n) k1.lt))
  have HB := hide k2
  obtain ⟨u0, u1, u2, _⟩ := three_blk' k0
  obtain ⟨v0, v1, v2, _⟩ := three_blk' k1
  have E0 := hide e0
  clear e0 k0 k1 k2 k3 s1 s2 h1 h2 q1 q2 l1 l2
  go_enter Tryz.func8, Tryz.ntmps8
  go_upto_region 1 with fail
  rw [unhide E0]
  clear E0
  go_wp2_with fail
  refine (unhide D1).mono ?_
  rintro r w1 ⟨rfl, n1, rfl⟩
  obtain ⟨u0, u1, u2, _⟩ := three_blk' ((unhide HK) n1).1
  obtain ⟨v0, v1, v2, _⟩ := three_blk' ((unhide HK) n1).2
  go_wp2_with fail
  refine ((unhide D2) n1).mono ?_
  rintro r w2 ⟨rfl, n2, rfl⟩
  go_wp2_with fail
  go_ret
  exact ⟨rfl, below_drewN (unhide HB) (n1 + n2)⟩

theorem Tl.below {w w' : World} {B g off c C : Nat} {T : List Int} (h : Tl w B g off c T) (hb : Below C w w') (hC : w.heap.size ≤ C) : Tl w' B g off c T := h.keep (hb.block g (Nat.lt_of_lt_of_le h.blk.2 hC))
theorem TrOwn.below {w w' : World} {B C : Nat} {a1 a2 : Option Addr} {c1 c2 : Nat} {T1 T2 : List Int} (h : TrOwn w B a1 a2 c1 c2 T1 T2) (hb : Below C w w') (hC : w.heap.size ≤ C) : TrOwn w' B a1 a2 c1 c2 T1 T2 := by
  rcases h with h | ⟨g1, g2, o1, o2, d1, d2, e1, e2, hn, t1, t2⟩
  · exact .inl h
  · exact .inr ⟨g1, g2, o1, o2, d1, d2, e1, e2, hn, t1.below hb hC, t2.below hb hC⟩
theorem TrOwn.rows {w : World} {B : Nat} {a1 a2 : Option Addr} {c1 c2 : Nat} {T1 T2 : List Int} (h : TrOwn w B a1 a2 c1 c2 T1 T2) : IRow w a1 T1.length T1 ∧ IRow w a2 T2.length T2 := by
  rcases h with ⟨rfl, rfl, _, _, rfl, rfl⟩ | ⟨g1, g2, o1, o2, d1, d2, rfl, rfl, hn, t1, t2⟩
  · exact ⟨⟨rfl, True.intro, fun _ => rfl, fun y hy => by cases hy⟩, ⟨rfl, True.intro, fun _ => rfl, fun y hy => by cases hy⟩⟩
  · exact ⟨t1.row, t2.row⟩
theorem TrOwn.onlyIn {w w' : World} {B C D : Nat} {a1 a2 : Option Addr} {c1 c2 : Nat} {T1 T2 : List Int} (h : TrOwn w D a1 a2 c1 c2 T1 T2) (on : OnlyIn B C w w') (hD : C ≤ D) : TrOwn w' D a1 a2 c1 c2 T1 T2 := by
  rcases h with h | ⟨g1, g2, o1, o2, d1, d2, e1, e2, hn, t1, t2⟩
  · exact .inl h
  · exact .inr ⟨g1, g2, o1, o2, d1, d2, e1, e2, hn, t1.keep (on.2 g1 (Nat.le_trans hD t1.blk.1) t1.blk.2), t2.keep (on.2 g2 (Nat.le_trans hD t2.blk.1) t2.blk.2)⟩
/-- The block at which a slice begins. -/
def ablk (a : Option Addr) : Option Nat := a.map Addr.block
theorem TrOwn.lt {w : World} {B : Nat} {a1 a2 : Option Addr} {c1 c2 : Nat} {T1 T2 : List Int} (h : TrOwn w B a1 a2 c1 c2 T1 T2) {g : Nat} (hg : w.heap.size ≤ g) : ¬ ablk a1 = some g ∧ ¬ ablk a2 = some g := by
  rcases h with ⟨rfl, rfl, _, _, rfl, rfl⟩ | ⟨g1, g2, o1, o2, d1, d2, rfl, rfl, hn, t1, t2⟩
  · exact ⟨fun e => (nomatch e), fun e => (nomatch e)⟩
  · have h1 := t1.blk.2
    have h2 := t2.blk.2
    refine ⟨fun e => ?_, fun e => ?_⟩
    · have e : g1 = g := Option.some.inj e
      omega
    · have e : g2 = g := Option.some.inj e
      omega

set_option maxHeartbeats 4000000 in
theorem markTurn_own (c : Int) (B : Nat) (a1 a2 : Option Addr) (c1 c2 : Nat) (T1 T2 : List Int) (k0 : Int) (w : World) (h : TrOwn w B a1 a2 c1 c2 T1 T2) (hB : B ≤ w.heap.size) (l1 : T1.length ≤ 1048576) (l2 : T2.length ≤ 1048576) (hk0 : 0 ≤ k0) (hk1 : k0 ≤ 1048576) :
    Calls Tryz.prog 11 #[.agg #[.int .i64 c, .slice a1 T1.length c1, .slice a2 T2.length c2], .int .i64 k0] w fun e w' => e = .returned (.int .i64 (k0 + T1.length + T2.length)) ∧
      TrOwn w' B a1 a2 c1 c2 (imarks k0 T1.length) (imarks (k0 + T1.length) T2.length) ∧ Below B w w' ∧ (∀ g, g < w.heap.size → ¬ ablk a1 = some g → ¬ ablk a2 = some g → w'.heap[g]? = w.heap[g]?) := by
  have k0b := SBlk.new w #[.int .i64 c, .slice a1 T1.length c1, .slice a2 T2.length c2] 30
  have bb := below_alloc w (.cells #[.int .i64 c, .slice a1 T1.length c1, .slice a2 T2.length c2] 30)
  obtain ⟨W0, e0⟩ : ∃ W, w.alloc (.cells #[.int .i64 c, .slice a1 T1.length c1, .slice a2 T2.length c2] 30) = W := ⟨_, rfl⟩
  rw [e0] at k0b bb
  have hlt := h.lt (Nat.le_refl _)
  have h := h.below bb (Nat.le_refl _)
  obtain ⟨u0, u1, u2, _⟩ := three_blk' k0b
  have E0 := hide e0
  rcases h with ⟨rfl, rfl, rfl, rfl, rfl, rfl⟩ | ⟨g1, g2, o1, o2, d1, d2, rfl, rfl, hn, t1, t2⟩
  · have D1 := hide (fun W => markInt64S_nil k0 W)
    have HB := hide bb
    clear e0 k0b bb hlt
    simp only [List.length_nil] at E0 u1 u2 ⊢
    go_enter Tryz.func11, Tryz.ntmps11
    go_upto_region 1 with fail
    rw [unhide E0]
    clear E0
    go_wp2_with fail
    refine ((unhide D1) _).mono ?_
    rintro r w1 ⟨rfl, rfl⟩
    go_wp2_with fail
    refine ((unhide D1) _).mono ?_
    rintro r w2 ⟨rfl, rfl⟩
    go_wp2_with fail
    go_ret
    exact ⟨by simp, .inl ⟨rfl, rfl, rfl, rfl, rfl, rfl⟩, ⟨(unhide HB).os, (unhide HB).tape, (unhide HB).output, (unhide HB).size, fun g hg => (unhide HB).block g (Nat.lt_of_lt_of_le hg hB)⟩, fun g hg _ _ => (unhide HB).block g hg⟩
  · have D1 := hide (markT_any B g1 o1 d1 c1 T1 k0 W0 t1 (by omega) hk0 (by omega))
    have HN := hide (And.intro hn (And.intro hlt t2))
    have HKB := hide k0b
    have HB := hide bb
    have hn1 : ¬ w.heap.size = g1 := fun e => hlt.1 (by rw [e]; rfl)
    have HN1 := hide hn1
    obtain ⟨N1, en1⟩ : ∃ n, n = T1.length := ⟨_, rfl⟩
    obtain ⟨N2, en2⟩ : ∃ n, n = T2.length := ⟨_, rfl⟩
    rw [← en1] at D1 l1 u1 HKB
    rw [← en1, ← en2] at E0 ⊢
    rw [← en2] at l2 u2 HKB
    have EN1 := hide en1
    have EN2 := hide en2
    clear e0 k0b bb hlt hn t1 t2 hn1 en1 en2
    go_enter Tryz.func11, Tryz.ntmps11
    go_upto_region 1 with fail
    rw [unhide E0]
    clear E0
    go_wp2_with fail
    refine (unhide D1).mono ?_
    rintro r w1 ⟨rfl, q1, z1, b1⟩
    obtain ⟨hn, hlt, t2⟩ := unhide HN
    have kb1 : SBlk w1 w.heap.size [.int .i64 c, .slice (some ⟨g1, o1, none⟩) N1 c1, .slice (some ⟨g2, o2, none⟩) N2 c2] 30 := (z1 _ (unhide HN1)).trans (unhide HKB)
    obtain ⟨u0, u1, u2, _⟩ := three_blk' kb1
    have t2' := t2.keep (z1 g2 (fun e => hn e.symm))
    have D2 := hide (markT_any B g2 o2 d2 c2 T2 (k0 + N1) w1 t2' (by have := unhide EN2; omega) (by omega) (by omega))
    rw [← unhide EN2] at D2
    have HQ := hide (And.intro q1 (And.intro z1 b1))
    clear kb1 t2 t2' q1 z1 b1 D1 hn hlt
    obtain ⟨K1, ek1⟩ : ∃ K : Int, K = k0 + N1 := ⟨_, rfl⟩
    rw [← ek1] at D2 ⊢
    have EK := hide ek1
    clear ek1
    go_wp2_with fail
    refine (unhide D2).mono ?_
    rintro r w2 ⟨rfl, q2, z2, b2⟩
    have HR := hide (And.intro q2 (And.intro z2 b2))
    clear q2 z2 b2 D2
    go_wp2_with fail
    go_ret
    obtain ⟨q1, z1, b1⟩ := unhide HQ
    obtain ⟨q2, z2, b2⟩ := unhide HR
    have ek := unhide EK
    subst ek
    obtain ⟨hn, hlt, _⟩ := unhide HN
    have hb := unhide HB
    refine ⟨rfl, .inr ⟨g1, g2, o1, o2, d1, d2, rfl, rfl, hn, q1.keep (z2 g1 hn), q2⟩, (Below.trans ⟨hb.os, hb.tape, hb.output, hb.size, fun g hg => hb.block g (Nat.lt_of_lt_of_le hg hB)⟩ b1).trans b2, fun g hg h1 h2 => ?_⟩
    have x1 : ¬ g = g1 := fun e => h1 (by rw [e]; rfl)
    have x2 : ¬ g = g2 := fun e => h2 (by rw [e]; rfl)
    exact (z2 g x2).trans ((z1 g x1).trans (hb.block g hg))

set_option maxHeartbeats 4000000 in
theorem heldTurn_any (c : Int) (a1 a2 : Option Addr) (n1 n2 c1 c2 : Nat) (k0 : Int) (w : World) (h1 : IRow w a1 n1 (imarks k0 n1)) (h2 : IRow w a2 n2 (imarks (k0 + n1) n2)) (l1 : n1 ≤ 1048576) (l2 : n2 ≤ 1048576) (hk0 : 0 ≤ k0) (hk1 : k0 ≤ 1048576) :
    Calls Tryz.prog 12 #[.agg #[.int .i64 c, .slice a1 n1 c1, .slice a2 n2 c2], .int .i64 k0] w fun e w' => e = .returned (.int .i64 (k0 + n1 + n2)) ∧ Below w.heap.size w w' := by
  have k0b := SBlk.new w #[.int .i64 c, .slice a1 n1 c1, .slice a2 n2 c2] 30
  have bb := below_alloc w (.cells #[.int .i64 c, .slice a1 n1 c1, .slice a2 n2 c2] 30)
  obtain ⟨W0, e0⟩ : ∃ W, w.alloc (.cells #[.int .i64 c, .slice a1 n1 c1, .slice a2 n2 c2] 30) = W := ⟨_, rfl⟩
  rw [e0] at k0b bb
  have D1 := hide (heldInt64S_any n1 c1 a1 k0 W0 (h1.below bb (Nat.le_refl _)) (by omega) hk0 (by omega))
  have D2 := hide (heldInt64S_any n2 c2 a2 (k0 + n1) W0 (h2.below bb (Nat.le_refl _)) (by omega) (by omega) (by omega))
  obtain ⟨u0, u1, u2, _⟩ := three_blk' k0b
  have HB := hide bb
  have E0 := hide e0
  obtain ⟨K1, ek1⟩ : ∃ K : Int, K = k0 + n1 := ⟨_, rfl⟩
  rw [← ek1] at D1 D2 ⊢
  have x1 : decide (K1 < 0) = false := decide_eq_false (by omega)
  have x2 : decide (K1 + (n2 : Int) < 0) = false := decide_eq_false (by omega)
  clear e0 k0b bb h1 h2 l1 l2 ek1
  go_enter Tryz.func12, Tryz.ntmps12
  go_upto_region 1 with fail
  rw [unhide E0]
  clear E0
  go_wp2_with fail
  refine (unhide D1).mono ?_
  rintro r w1 ⟨rfl, rfl⟩
  go_wp2_with fail
  refine (unhide D2).mono ?_
  rintro r w2 ⟨rfl, rfl⟩
  go_wp2_with fail
  go_ret
  exact ⟨rfl, unhide HB⟩

end Go.Proofs.YtldiilmpmcbjkaaGreatDoor

/- What is proved here: the contracts of the laws' helper functions that count entries and stores: what they leave is below 0, or all is small (szInt64S, szEntry, szEntryS, szStore). -/
namespace Go.Proofs.YtldiilmpmcbjkaaGreatDoor
open Go.RowKit
set_option linter.unusedVariables false
set_option linter.unusedSimpArgs false
set_option maxRecDepth 100000

theorem szI1_any (a : Option Addr) (n cap : Nat) (left : Int) (w : World) (h0 : 0 ≤ left) (h1 : left ≤ 1099511627776) (hn : n ≤ maxLen) :
    Calls Tryz.prog 47 #[.slice a n cap, .int .i64 left] w fun e w' => e = .returned (.int .i64 (if left - n < 0 then -1 else left - n)) ∧ w' = w := by
  unfold maxLen at hn
  by_cases h : left - n < 0
  · rw [if_pos h]
    have hd : decide (left - (n : Int) < 0) = true := decide_eq_true h
    go_enter Tryz.func47, Tryz.ntmps47
    go_wp2
    go_ret
    exact ⟨rfl, rfl⟩
  · rw [if_neg h]
    have hd : decide (left - (n : Int) < 0) = false := decide_eq_false h
    go_enter Tryz.func47, Tryz.ntmps47
    go_wp2
    go_ret
    exact ⟨rfl, rfl⟩

set_option maxHeartbeats 4000000 in
theorem szEntry_any (e : EnS) (x : En) (L0 : Int) (w : World) (o : enK.Ok w e x) (h0 : 0 ≤ L0) (h1 : L0 ≤ 1048576) :
    Calls Tryz.prog 30 #[.agg (evals e x), .int .i64 L0] w fun r w' => (∃ q : Int, r = .returned (.int .i64 q) ∧ -1 ≤ q ∧ q ≤ L0 ∧ (0 ≤ q → EnSm x)) ∧ Below w.heap.size w w' := by
  have k0 := SBlk.new w (evals e x) 65
  have k2 := below_alloc w (.cells (evals e x) 65)
  obtain ⟨W0, e0⟩ : ∃ W, w.alloc (.cells (evals e x) 65) = W := ⟨_, rfl⟩
  rw [e0] at k0 k2
  replace o := enK.below o k2 (Nat.le_refl _)
  have D1 := hide (szHeader_any e.1 x.1 L0 W0 (hd_ok o.1) (hd_max o.1) h0 h1)
  have l2 : e.2.1.n ≤ maxLen := Nat.le_trans (BOk.room o.2.1) (BOk.max o.2.1)
  have l3 : e.2.2.2.n ≤ maxLen := Nat.le_trans (IOk.room o.2.2.2) (IOk.max o.2.2.2)
  have z2 : x.2.1.length = e.2.1.n := (BOk.row o.2.1).1
  have z3 : x.2.2.2.length = e.2.2.2.n := (IOk.row o.2.2.2).1
  have HZ := hide (And.intro z2 z3)
  have HLa : Hid ((Instr.loadAt 63 (.pointer (some ⟨w.heap.size, 0, none⟩))).run Tryz.prog W0 = .ok (.agg (hvals e.1 x.1)) W0) :=
    ld_run (hvals e.1 x.1).toList 63 _ (fun j v hv => by rw [Nat.zero_add, k0.cell]; exact ev_hd e x j v hv) Tryz.underlying63 rfl (by kernel_rfl)
  have HK0 := hide (fun (W : World) (hb : Below W0.heap.size W0 W) => k0.below hb k0.lt)
  have HB0 := hide k2
  have E0 := hide e0
  clear e0 o k0 k2 z2 z3
  generalize hvals e.1 x.1 = V1 at HLa D1
  unfold evals at E0 HK0 ⊢
  go_enter Tryz.func30, Tryz.ntmps30
  go_upto_region 1 with fail
  rw [unhide E0]
  clear E0
  go_wp2_with (refine wpList_load_eq rfl 63 _ rfl _ _ rfl (unhide HLa) ?_)
  refine (unhide D1).mono ?_
  rintro r w1 ⟨⟨L1, rfl, a1, a2, a3⟩, b1⟩
  have B1 := hide ((unhide HB0).trans (b1.mono (unhide HB0).size))
  have k1 := (unhide HK0) w1 b1
  have x1 := k1.cell 11
  have x2 := k1.cell 13
  simp only [List.getElem?_cons_zero, List.getElem?_cons_succ] at x1 x2
  clear b1 k1 HK0 D1 HLa
  by_cases n1 : L1 < 0
  · have d1 : decide (L1 < 0) = true := decide_eq_true n1
    go_wp2_with fail
    go_ret
    exact ⟨⟨-1, rfl, by omega, by omega, fun h => by omega⟩, unhide B1⟩
  have d1 : decide (L1 < 0) = false := decide_eq_false n1
  have S1 := a3 (by omega)
  have HS1 := hide S1
  obtain ⟨L2, e2⟩ : ∃ L : Int, L = if L1 - e.2.1.n < 0 then -1 else L1 - e.2.1.n := ⟨_, rfl⟩
  have D2 := hide (szB1_to e.2.1.a e.2.1.n e.2.1.c L1 L2 w1 (by omega) (by omega) l2 e2)
  have E2 := hide e2
  clear e2 S1 a3
  go_wp2_with fail
  refine (unhide D2).mono ?_
  rintro r w2 ⟨rfl, rfl⟩
  by_cases n2 : L2 < 0
  · have d2 : decide (L2 < 0) = true := decide_eq_true n2
    go_wp2_with fail
    go_ret
    exact ⟨⟨-1, rfl, by omega, by omega, fun h => by omega⟩, unhide B1⟩
  have d2 : decide (L2 < 0) = false := decide_eq_false n2
  have f2 : L2 = L1 - e.2.1.n := by
    have := unhide E2
    split at this <;> omega
  have F2 := hide f2
  have g2 : L2 ≤ L1 := by omega
  have D3 := hide (szI1_any e.2.2.2.a e.2.2.2.n e.2.2.2.c L2 w2 (by omega) (by omega) l3)
  obtain ⟨L3, e3⟩ : ∃ L : Int, L = if L2 - e.2.2.2.n < 0 then -1 else L2 - e.2.2.2.n := ⟨_, rfl⟩
  rw [← e3] at D3
  have E3 := hide e3
  clear e3 f2 D2
  go_wp2_with fail
  refine (unhide D3).mono ?_
  rintro r w3 ⟨rfl, rfl⟩
  by_cases n3 : L3 < 0
  · have d3 : decide (L3 < 0) = true := decide_eq_true n3
    go_wp2_with fail
    go_ret
    exact ⟨⟨-1, rfl, by omega, by omega, fun h => by omega⟩, unhide B1⟩
  have d3 : decide (L3 < 0) = false := decide_eq_false n3
  go_wp2_with fail
  go_ret
  have f2 := unhide F2
  have f3 : L3 = L2 - e.2.2.2.n := by
    have := unhide E3
    split at this <;> omega
  obtain ⟨z2, z3⟩ := unhide HZ
  exact ⟨⟨L3, rfl, by omega, by omega, fun _ => ⟨unhide HS1, by omega, by omega⟩⟩, unhide B1⟩

set_option maxHeartbeats 4000000 in
theorem szEntryS_any (s : Sl) (xs : List En) (L0 : Int) (w : World) (o : RowOk enK w s xs) (h0 : 0 ≤ L0) (h1 : L0 ≤ 1048576) :
    Calls Tryz.prog 13 #[.slice s.a s.n s.c, .int .i64 L0] w fun r w' => (∃ q : Int, r = .returned (.int .i64 q) ∧ -1 ≤ q ∧ q ≤ L0 ∧ (0 ≤ q → xs.length ≤ 1048576 ∧ ∀ y ∈ xs, EnSm y)) ∧ Below w.heap.size w w' := by
  obtain ⟨a, n, c⟩ := s
  have hn : n = xs.length := o.len
  have hl : n ≤ maxLen := Nat.le_trans o.room o.max
  unfold maxLen at hl
  by_cases hs : L0 - n < 0
  · have hd : decide (L0 - (n : Int) < 0) = true := decide_eq_true hs
    clear o
    go_enter Tryz.func13, Tryz.ntmps13
    go_wp2_with fail
    go_ret
    exact ⟨⟨-1, rfl, by omega, by omega, fun h => by omega⟩, Below.refl _ _⟩
  · rcases Nat.eq_zero_or_pos n with hz | hp
    · subst hz
      obtain rfl : xs = [] := List.length_eq_zero_iff.1 hn.symm
      clear o hn hl hs
      have hd : decide (L0 < 0) = false := decide_eq_false (by omega)
      go_enter Tryz.func13, Tryz.ntmps13
      go_wp2_with fail
      refine wp_loop_rounds 1 ?_
      rw [rounds_succ]
      go_wp2_with fail
      go_ret
      exact ⟨⟨L0, rfl, by omega, by omega, fun h => ⟨by simp, fun y hy => by simp at hy⟩⟩, Below.refl _ _⟩
    · have hd : decide (L0 - (n : Int) < 0) = false := decide_eq_false hs
      obtain ⟨b, off, rfl, hb, hc⟩ := o.pos hp
      have HC := hide (fun (W : World) (hbl : Below w.heap.size w W) (i : Nat) (x : En) (hx : xs[i]? = some x) => match hc i x hx with | ⟨e, c, o⟩ => (⟨e, fun j v hv => (hbl.cell (p := ⟨b, off + i * 14 + j, none⟩) hb).trans (c j v hv), enK.below o hbl (Nat.le_refl _)⟩ : ∃ e : EnS, (∀ j v, (evals e x).toList[j]? = some v → W.cell? ⟨b, off + i * 14 + j, none⟩ = some v) ∧ enK.Ok W e x))
      have HL := hide hn
      clear o hc hn
      go_enter Tryz.func13, Tryz.ntmps13
      go_wp2_with fail
      go_loopw [1, 5] (fun q i wr => ∃ (k : Nat) (L : Int), k ≤ n ∧ i = .int .i64 k ∧ q = .int .i64 L ∧ 0 ≤ L ∧ L ≤ L0 - n ∧ (∀ (j : Nat) y, j < k → xs[j]? = some y → EnSm y) ∧ Below w.heap.size w wr) (fun _ i _ => n - (intOf i).toNat)
      case atStart => exact ⟨0, _, Nat.zero_le _, rfl, rfl, by omega, by omega, fun j y hj => absurd hj (Nat.not_lt_zero _), Below.refl _ _⟩
      case round =>
        obtain ⟨k, L, hk, rfl, rfl, hL0, hL1, hall, hbr⟩ := hrel
        have HA := hide hall
        clear hall
        by_cases hlt : k < n
        · have hkx : k < xs.length := by rw [← unhide HL]; exact hlt
          obtain ⟨x, hx⟩ : ∃ x, xs[k]? = some x := ⟨_, List.getElem?_eq_getElem hkx⟩
          obtain ⟨e, c, o⟩ := (unhide HC) wr hbr k x hx
          have HLD : Hid (∀ W, Below wr.heap.size wr W → (Instr.loadAt 65 (.pointer (some ⟨b, off + k * 14, none⟩))).run Tryz.prog W = .ok (.agg (evals e x)) W) := fun W hbl =>
            ld_run (evals e x).toList 65 _ (fun j v hv => (hbl.cell (p := ⟨b, off + k * 14 + j, none⟩) (lt_of_cell (c j v hv))).trans (c j v hv)) Tryz.underlying65 rfl (by kernel_rfl)
          have HD := hide (fun (W : World) (hbl : Below wr.heap.size wr W) => szEntry_any e x L W (enK.below o hbl (Nat.le_refl _)) hL0 (by omega))
          have HX := hide hx
          have HB := hide hbr
          have i1 : (0 : Int) ≤ (k : Int) := by omega
          have i2 : (k : Int) < (n : Int) := by omega
          clear c o hbr hx hkx
          generalize evals e x = V at HLD HD
          go_wp2_with (refine wpList_load_eq rfl 65 _ rfl _ _ rfl ((unhide HLD) _ (by first | exact Below.refl _ _ | exact (Below.refl _ _).drew)) ?_)
          refine ((unhide HD) _ (by first | exact Below.refl _ _ | exact (Below.refl _ _).drew)).mono ?_
          rintro r w2 ⟨⟨q, rfl, a1, a2, a3⟩, b2⟩
          have b2' : Below wr.heap.size wr w2 := by first | exact b2 | exact Below.trans ((Below.refl _ _).drew) b2
          have HB2 := hide ((unhide HB).trans (b2'.mono (unhide HB).size))
          have HA3 := hide a3
          clear b2 b2' a3
          by_cases hq : q < 0
          · have dq : decide (q < 0) = true := decide_eq_true hq
            go_wp2_with fail
            go_ret
            exact ⟨⟨-1, rfl, by omega, by omega, fun h => by omega⟩, unhide HB2⟩
          · have dq : decide (q < 0) = false := decide_eq_false hq
            go_wp2_with fail
            go_roundw
            case rel =>
              refine ⟨k + 1, q, by omega, by go_num, rfl, by omega, by omega, fun j y hj hy => ?_, unhide HB2⟩
              by_cases e : j = k
              · subst e
                obtain rfl : x = y := Option.some.inj ((unhide HX).symm.trans hy)
                exact (unhide HA3) (by omega)
              · exact (unhide HA) j y (by omega) hy
            case measure => simp [intOf]; omega
        · obtain rfl : k = n := by omega
          have HB := hide hbr
          clear hbr
          go_wp2_with fail
          go_ret
          refine ⟨⟨L, rfl, by omega, by omega, fun _ => ⟨by have := unhide HL; omega, fun y hy => ?_⟩⟩, unhide HB⟩
          obtain ⟨j, hj⟩ := List.getElem?_of_mem hy
          have hjl := (List.getElem?_eq_some_iff.1 hj).1
          exact (unhide HA) j y (by have := unhide HL; omega) hj

set_option maxHeartbeats 4000000 in
theorem szStore_any (s : Sl) (x : St) (L0 : Int) (w : World) (o : RowOk enK w s x.2) (h0 : 0 ≤ L0) (h1 : L0 ≤ 1048576) :
    Calls Tryz.prog 4 #[.agg (tvals s x), .int .i64 L0] w fun r w' => (∃ q : Int, r = .returned (.int .i64 q) ∧ -1 ≤ q ∧ q ≤ L0 ∧ (0 ≤ q → StSm x)) ∧ Below w.heap.size w w' := by
  have k0 := SBlk.new w (tvals s x) 26
  have k2 := below_alloc w (.cells (tvals s x) 26)
  obtain ⟨W0, e0⟩ : ∃ W, w.alloc (.cells (tvals s x) 26) = W := ⟨_, rfl⟩
  rw [e0] at k0 k2
  have D1 := hide (szEntryS_any s x.2 L0 W0 (RowOk.below o k2 (Nat.le_refl _)) h0 h1)
  have HB0 := hide k2
  unfold tvals at k0 e0 ⊢
  have x1 := k0.cell 3
  simp only [List.getElem?_cons_zero, List.getElem?_cons_succ] at x1
  have E0 := hide e0
  clear e0 o k0 k2
  go_enter Tryz.func4, Tryz.ntmps4
  go_upto_region 1 with fail
  rw [unhide E0]
  clear E0
  go_wp2_with fail
  refine (unhide D1).mono ?_
  rintro r w1 ⟨⟨L1, rfl, a1, a2, a3⟩, b1⟩
  have B1 := hide ((unhide HB0).trans (b1.mono (unhide HB0).size))
  have HA3 := hide a3
  clear b1 D1 a3 x1
  by_cases n1 : L1 < 0
  · have d1 : decide (L1 < 0) = true := decide_eq_true n1
    go_wp2_with fail
    go_ret
    exact ⟨⟨-1, rfl, by omega, by omega, fun h => by omega⟩, unhide B1⟩
  have d1 : decide (L1 < 0) = false := decide_eq_false n1
  go_wp2_with fail
  go_ret
  refine ⟨⟨L1, rfl, by omega, by omega, fun h => ?_⟩, unhide B1⟩
  obtain ⟨q1, q2⟩ := (unhide HA3) h
  exact ⟨q1, q2⟩

end Go.Proofs.YtldiilmpmcbjkaaGreatDoor

/- What is proved here: the contracts of the laws' helper functions that mark a list or a header that a call made, and look for the marks later (markByteSS, markHeader, heldByteSS, heldHeader). -/
namespace Go.Proofs.YtldiilmpmcbjkaaGreatDoor
open Go.RowKit
set_option linter.unusedVariables false
set_option maxRecDepth 100000

theorem take_drop_at (m l : List (List Int)) (k : Nat) (h : m.length = l.length) : (m.take k ++ l.drop k)[k]? = l[k]? := by
  by_cases hk : k ≤ m.length
  · rw [List.getElem?_append_right (by rw [List.length_take]; omega), List.length_take, Nat.min_eq_left hk, Nat.sub_self, List.getElem?_drop, Nat.add_zero]
  · rw [List.getElem?_eq_none (by rw [List.length_append, List.length_take, List.length_drop]; omega), List.getElem?_eq_none (by omega)]

theorem take_drop_set (m l : List (List Int)) (k : Nat) (x : List Int) (h : m.length = l.length) (hx : m[k]? = some x) : (m.take k ++ l.drop k).set k x = m.take (k + 1) ++ l.drop (k + 1) := by
  obtain ⟨hk, e⟩ := List.getElem?_eq_some_iff.1 hx
  have hl : (m.take k).length = k := by rw [List.length_take]; omega
  rw [List.set_append, if_neg (by omega), hl, Nat.sub_self, List.drop_eq_getElem_cons (by omega), List.set_cons_zero, List.take_succ_eq_append_getElem hk, e, List.append_assoc]
  rfl

theorem markB_col (B j : Nat) (d : Nat → Nat) (s : Sl) (z : List Int) (k0 : Int) (w : World) (h : CB w B d j s z) (hB : B ≤ w.heap.size) (hn : z.length ≤ 1048576) (hk0 : 0 ≤ k0) (hk1 : k0 ≤ 1099511627776) :
    Calls Tryz.prog 43 #[.slice s.a s.n s.c, .int .i64 k0] w fun e w' => e = .returned (.int .i64 (k0 + (z.length : Nat))) ∧ CB w' B d j s (marks k0 z.length) ∧ OnlyD B d (fun c => c = j) w w' := by
  have hl := h.len
  refine (markByteS_own B s.n s.c s.a z k0 w h.own (by omega) hk0 hk1).mono ?_
  rintro e w' ⟨rfl, ho, hg⟩
  rw [hl] at ho
  refine ⟨by rw [hl], ⟨by rw [marks_length]; exact hl, marks_range _ _, by rw [hl]; exact ho, h.col⟩, OnlyD.grown hg hB (fun g e => ⟨(own_lt h.own g e).1, h.col g e⟩)⟩

set_option maxHeartbeats 4000000 in
theorem markSS_col (B r c : Nat) (d : Nat → Nat) (s : Sl) (zss : List (List Int)) (k0 : Int) (w : World) (h : CS w B d r c s zss) (hr : ∀ i, r ≠ c + 3 * i) (hB : B ≤ w.heap.size) (hl : zss.length ≤ 1048576) (hs : bsum zss ≤ 1048576) (hk0 : 0 ≤ k0) (hk1 : k0 ≤ 16777216) :
    Calls Tryz.prog 44 #[.slice s.a s.n s.c, .int .i64 k0] w fun e w' => e = .returned (.int .i64 (k0 + (bsum zss : Nat))) ∧ CS w' B d r c s (mkss k0 zss) ∧ OnlyD B d (fun q => ∃ i, q = c + 3 * i) w w' := by
  have hsn := h.1
  have HSN := hide (bsum_snoc zss)
  have HLE := hide (bsum_le zss)
  have HMA := hide (mkss_at zss k0)
  have HML := hide (mkss_length zss k0)
  have HM := hide h
  have HR := hide hr
  obtain ⟨len, hlen⟩ : ∃ len, len = zss.length := ⟨_, rfl⟩
  have HLEN := hide hlen
  rw [hsn]
  rw [← hlen] at hl hsn ⊢
  clear h hr hlen
  have HSL := hide hsn
  clear hsn
  generalize hsc : s.c = sc
  have HSC := hide hsc
  clear hsc
  generalize hsa : s.a = sa
  have HSA := hide hsa
  clear hsa
  go_enter Tryz.func44, Tryz.ntmps44
  go_wp2_with fail
  go_loopw [1, 5] (fun q i wr => ∃ k : Nat, k ≤ len ∧ i = .int .i64 k ∧ q = .int .i64 (k0 + (bsum (zss.take k) : Nat)) ∧ CS wr B d r c s ((mkss k0 zss).take k ++ zss.drop k) ∧ OnlyD B d (fun q => ∃ i, q = c + 3 * i) w wr) (fun _ i _ => len - (intOf i).toNat)
  case atStart => exact ⟨0, Nat.zero_le _, rfl, by simp [bsum], by simpa using unhide HM, OnlyD.refl _ _ _ _⟩
  case round =>
    obtain ⟨k, hk, rfl, rfl, hm, ho⟩ := hrel
    clear HM
    by_cases hlt : k < len
    · obtain ⟨z, hit⟩ : ∃ z, zss[k]? = some z := ⟨_, List.getElem?_eq_getElem (by rw [← unhide HLEN]; exact hlt)⟩
      have hat := (take_drop_at (mkss k0 zss) zss k (unhide HML)).trans hit
      obtain ⟨g, e, ha, hc, hcb, hst⟩ := hm.at hat ((unhide HR) k)
      have hma := (unhide HMA) k z hit
      have hsn := (unhide HSN) k z hit
      have hle1 := (unhide HLE) (k + 1)
      have hzl : z.length ≤ 1048576 := by omega
      obtain ⟨ks, hks⟩ : ∃ ks, ks = bsum (zss.take k) := ⟨_, rfl⟩
      rw [← hks] at hsn hma ⊢
      have hksl : ks ≤ 1048576 := by omega
      have hBr : B ≤ wr.heap.size := Nat.le_trans hB ho.1.size
      have HC := hide (markB_col B (c + 3 * k) d e z (k0 + ks) wr hcb hBr hzl (by omega) (by omega))
      have HST : Hid (∀ w', CB w' B d (c + 3 * k) e (marks (k0 + ks) z.length) → OnlyD B d (fun q => q = c + 3 * k) wr w' → CS w' B d r c s ((mkss k0 zss).take (k + 1) ++ zss.drop (k + 1)) ∧ OnlyD B d (fun q => ∃ i, q = c + 3 * i) w w') := fun w' hb hw => by
        have := hst w' _ hw hb
        rw [take_drop_set _ _ k _ (unhide HML) hma] at this
        exact ⟨this, ho.trans (hw.mono (fun q e => ⟨k, e⟩))⟩
      have HSN2 : Hid (bsum (zss.take (k + 1)) = ks + z.length) := hsn
      have k1 : (0 : Int) ≤ (k : Int) := by omega
      have k2 : (k : Int) < (len : Int) := by omega
      rw [unhide HSA] at ha
      subst ha
      generalize z.length = zl at HC HST HSN2 hzl
      clear hsn hle1 hit ho hks hm hat hcb hst hma
      go_wp2_with fail
      refine (unhide HC).mono ?_
      rintro e w2 ⟨rfl, b2, g2⟩
      obtain ⟨m2, o2⟩ := (unhide HST) w2 b2 g2
      have HM2 := hide m2
      have HO2 := hide o2
      clear m2 o2 g2 b2
      go_wp2_with fail
      go_roundw
      case rel => exact ⟨k + 1, by omega, by go_num, by rw [unhide HSN2]; congr 1; omega, unhide HM2, unhide HO2⟩
      case measure => simp [intOf]; omega
    · obtain rfl : k = len := by omega
      have et : zss.take k = zss := List.take_of_length_le (by rw [← unhide HLEN]; exact Nat.le_refl _)
      have em : (mkss k0 zss).take k ++ zss.drop k = mkss k0 zss := by rw [List.take_of_length_le (by rw [unhide HML, ← unhide HLEN]; exact Nat.le_refl _), List.drop_eq_nil_of_le (by rw [← unhide HLEN]; exact Nat.le_refl _), List.append_nil]
      rw [et]
      rw [em] at hm
      have HO := hide ho
      have HM := hide hm
      clear hm ho et em
      go_wp2_with fail
      go_ret
      exact ⟨rfl, unhide HM, unhide HO⟩

end Go.Proofs.YtldiilmpmcbjkaaGreatDoor

/- What is proved here: the contracts of the laws' helper functions that mark bytes, numbers and lists of bytes that a call made, told by paths: what they leave, and that nothing else is written (markByteS, markInt64S, markByteSS). -/
namespace Go.Proofs.YtldiilmpmcbjkaaGreatDoor
open Go.RowKit
set_option linter.unusedVariables false
set_option linter.unusedSimpArgs false
set_option maxRecDepth 100000

/-- What a row's element is, and that it may be changed for another one of the same cells. -/
theorem RowOwn.swap {α β : Type} {K : Kd α β} {T : TypeId} {w : World} {B : Nat} {d : Nat → Path} {p : Path} {s : Sl} {xs : List α} (h : RowOwn K T w B d p s xs) {i : Nat} {x : α} (hx : xs[i]? = some x) :
    ∃ b off e, s.a = some ⟨b, off, none⟩ ∧ B ≤ b ∧ b < w.heap.size ∧ d b = p ∧ K.Own w B d (p ++ [i]) e x ∧ (∀ j v, (K.vals e x)[j]? = some v → w.cell? ⟨b, off + i * K.m + j, none⟩ = some v) ∧ (∀ j, w.frozen? ⟨b, j, none⟩ = false) ∧
      ∀ w' x', OnlyP B d (p ++ [i]) w w' → K.Own w' B d (p ++ [i]) e x' → K.vals e x' = K.vals e x → RowOwn K T w' B d p s (xs.set i x') := by
  obtain ⟨h1, es, vs, h2, h3, h4, h5⟩ := h
  have hi := (List.getElem?_eq_some_iff.1 hx).1
  obtain ⟨e, he⟩ : ∃ e, es[i]? = some e := ⟨_, List.getElem?_eq_getElem (by omega)⟩
  obtain ⟨q1, q2⟩ := h5 i e x he hx
  obtain ⟨b, off, ha, hb, hlt⟩ := h3.pos (by omega)
  refine ⟨b, off, e, ha, hb, hlt, h4 _ ha, q2, fun j v hv => ?_, fun j => h3.free ha j, fun w' x' ho hx' hv => ?_⟩
  · have hj : j < K.m := by have := (List.getElem?_eq_some_iff.1 hv).1; rw [K.len] at this; exact this
    rw [Nat.add_assoc, h3.cell ha (row_index (by omega) hj)]
    exact q1 j v hv
  · refine ⟨by rw [List.length_set]; exact h1, es, vs, by rw [List.length_set]; exact h2, h3.keep (fun y hy => ?_), h4, fun j e' y he' hy => ?_⟩
    · rw [ha] at hy
      obtain rfl := Option.some.inj hy
      exact ho.2 b hlt (by rw [h4 _ ha]; exact not_pre_self p i)
    · by_cases hji : i = j
      · subst hji
        obtain rfl : e = e' := Option.some.inj (he.symm.trans he')
        rw [List.getElem?_set_self hi] at hy
        obtain rfl := Option.some.inj hy
        exact ⟨fun j v hv' => q1 j v (by rw [← hv]; exact hv'), hx'⟩
      · rw [List.getElem?_set_ne hji] at hy
        obtain ⟨r1, r2⟩ := h5 j e' y he' hy
        exact ⟨r1, K.frame r2 (fun g a b c => ho.2 g a (pre_snoc p (d g) j i (fun q => hji q.symm) c))⟩

theorem OnlyP.grown {B : Nat} {d : Nat → Path} {p : Path} {w w' : World} {o : Option Nat} (h : w.grownBy w' o) (hB : B ≤ w.heap.size) (hk : ∀ g, o = some g → B ≤ g ∧ d g = p) : OnlyP B d p w w' :=
  ⟨(Below.refl _ _).grown h hB (fun g e => (hk g e).1), fun g hg hs => h.block g hg (fun e => hs (by rw [(hk g e.symm).2]; exact List.prefix_rfl))⟩

theorem markB_p (B : Nat) (d : Nat → Path) (p : Path) (s : Sl) (z : List Int) (k0 : Int) (w : World) (h : BOwn w B d p s z) (hB : B ≤ w.heap.size) (hn : z.length ≤ 1048576) (hk0 : 0 ≤ k0) (hk1 : k0 ≤ 1099511627776) :
    Calls Tryz.prog 43 #[.slice s.a s.n s.c, .int .i64 k0] w fun e w' => e = .returned (.int .i64 (k0 + (z.length : Nat))) ∧ BOwn w' B d p s (marks k0 z.length) ∧ OnlyP B d p w w' := by
  have hl : z.length = s.n := by have := h.own.1; simpa using this
  refine (markByteS_own B s.n s.c s.a z k0 w h.own (by omega) hk0 hk1).mono ?_
  rintro e w' ⟨rfl, ho, hg⟩
  rw [hl]
  refine ⟨rfl, ⟨marks_range _ _, ho, h.col⟩, OnlyP.grown hg hB (fun g e => ?_)⟩
  have := own_lt h.own g e
  refine ⟨this.1, ?_⟩
  cases ha : s.a with
  | none => rw [ha] at e; simp [Value.ownBlock] at e
  | some x =>
    rw [ha] at e
    simp only [Value.ownBlock, Option.map_some, Option.some.injEq] at e
    rw [← e]
    exact h.col x ha

theorem markI_p (B : Nat) (d : Nat → Path) (p : Path) (s : Sl) (z : List Int) (k0 : Int) (w : World) (h : IOwn w B d p s z) (hB : B ≤ w.heap.size) (hn : z.length ≤ 1048576) (hk0 : 0 ≤ k0) (hk1 : k0 ≤ 1099511627776) :
    Calls Tryz.prog 28 #[.slice s.a s.n s.c, .int .i64 k0] w fun e w' => e = .returned (.int .i64 (k0 + (z.length : Nat))) ∧ IOwn w' B d p s (imarks k0 z.length) ∧ OnlyP B d p w w' := by
  have hl : z.length = s.n := by have := h.own.1; simpa using this
  refine (markInt64S_own B s.n s.c s.a z k0 w h.own (by omega) hk0 hk1).mono ?_
  rintro e w' ⟨rfl, ho, hg⟩
  rw [hl]
  refine ⟨rfl, ⟨ho, h.col⟩, OnlyP.grown hg hB (fun g e => ?_)⟩
  have := own_lt h.own g e
  refine ⟨this.1, ?_⟩
  cases ha : s.a with
  | none => rw [ha] at e; simp [Value.ownBlock] at e
  | some x =>
    rw [ha] at e
    simp only [Value.ownBlock, Option.map_some, Option.some.injEq] at e
    rw [← e]
    exact h.col x ha

/-- A number of an element written anew, in the row itself. -/
theorem RowOwn.setAt {α β : Type} {K : Kd α β} {T : TypeId} {w : World} {B : Nat} {d : Nat → Path} {p : Path} {s : Sl} {xs : List α} (h : RowOwn K T w B d p s xs) {i : Nat} {x : α} (hx : xs[i]? = some x) {b off : Nat} (ha : s.a = some ⟨b, off, none⟩) (c : Nat) (hc : c < K.m) (v : Value) (x' : α)
    (hv : ∀ e, K.vals e x' = (K.vals e x).set c v) (hO : ∀ (w' : World) (e : β), K.Own w' B d (p ++ [i]) e x → K.Own w' B d (p ++ [i]) e x') :
    RowOwn K T (w.setCell ⟨b, off + i * K.m + c, none⟩ v) B d p s (xs.set i x') := by
  obtain ⟨h1, es, vs, h2, h3, h4, h5⟩ := h
  have hi := (List.getElem?_eq_some_iff.1 hx).1
  have hdb : d b = p := h4 _ ha
  have keep : ∀ {j e y}, K.Own w B d (p ++ [j]) e y → K.Own (w.setCell ⟨b, off + i * K.m + c, none⟩ v) B d (p ++ [j]) e y := fun {j e y} q => K.frame q (fun g _ _ hp => heap_setCell_other w ⟨b, off + i * K.m + c, none⟩ g v (fun (ee : g = b) => by rw [ee, hdb] at hp; exact not_pre_self p j hp))
  refine ⟨by rw [List.length_set]; exact h1, es, vs.set (i * K.m + c) v, by rw [List.length_set]; exact h2, by rw [Nat.add_assoc]; exact h3.set ha (i * K.m + c) v, h4, fun j e y he hy => ?_⟩
  by_cases hji : i = j
  · subst hji
    rw [List.getElem?_set_self hi] at hy
    obtain rfl := Option.some.inj hy
    obtain ⟨q1, q2⟩ := h5 i e x he hx
    refine ⟨fun k u hu => ?_, hO _ e (keep q2)⟩
    have hk : k < K.m := by have := (List.getElem?_eq_some_iff.1 hu).1; rw [K.len] at this; exact this
    rw [hv e] at hu
    by_cases hkc : c = k
    · subst hkc
      rw [List.getElem?_set_self (by rw [K.len]; exact hc)] at hu
      rw [List.getElem?_set_self (by rw [h3.len]; exact row_index (by omega) hc)]
      exact hu
    · rw [List.getElem?_set_ne hkc] at hu
      rw [List.getElem?_set_ne (by omega)]
      exact q1 k u hu
  · rw [List.getElem?_set_ne hji] at hy
    obtain ⟨q1, q2⟩ := h5 j e y he hy
    refine ⟨fun k u hu => ?_, keep q2⟩
    have hk : k < K.m := by have := (List.getElem?_eq_some_iff.1 hu).1; rw [K.len] at this; exact this
    rw [List.getElem?_set_ne (fun (ee : i * K.m + c = j * K.m + k) => hji (by
      have e1 : (i * K.m + c) / K.m = i := by rw [Nat.mul_comm, Nat.mul_add_div (by omega), Nat.div_eq_of_lt hc, Nat.add_zero]
      have e2 : (j * K.m + k) / K.m = j := by rw [Nat.mul_comm, Nat.mul_add_div (by omega), Nat.div_eq_of_lt hk, Nat.add_zero]
      rw [← e1, ← e2, ee]))]
    exact q1 k u hu

set_option maxHeartbeats 4000000 in
theorem markSs_p (B : Nat) (d : Nat → Path) (p : Path) (s : Sl) (zss : List (List Int)) (k0 : Int) (w : World) (h : RowOwn bytesK 60 w B d p s zss) (hB : B ≤ w.heap.size) (hl : zss.length ≤ 1048576) (hs : bsum zss ≤ 1048576) (hk0 : 0 ≤ k0) (hk1 : k0 ≤ 549755813888) :
    Calls Tryz.prog 44 #[.slice s.a s.n s.c, .int .i64 k0] w fun e w' => e = .returned (.int .i64 (k0 + (bsum zss : Nat))) ∧ RowOwn bytesK 60 w' B d p s (mkss k0 zss) ∧ OnlyP B d p w w' := by
  have hsn : s.n = zss.length := h.1
  have HSN := hide (bsum_snoc zss)
  have HLE := hide (bsum_le zss)
  have HMA := hide (mkss_at zss k0)
  have HML := hide (mkss_length zss k0)
  have HM := hide h
  obtain ⟨len, hlen⟩ : ∃ len, len = zss.length := ⟨_, rfl⟩
  have HLEN := hide hlen
  rw [hsn]
  rw [← hlen] at hl hsn ⊢
  clear h hlen
  have HSL := hide hsn
  clear hsn
  generalize hsc : s.c = sc
  have HSC := hide hsc
  clear hsc
  generalize hsa : s.a = sa
  have HSA := hide hsa
  clear hsa
  go_enter Tryz.func44, Tryz.ntmps44
  go_wp2_with fail
  go_loopw [1, 5] (fun q i wr => ∃ k : Nat, k ≤ len ∧ i = .int .i64 k ∧ q = .int .i64 (k0 + (bsum (zss.take k) : Nat)) ∧ RowOwn bytesK 60 wr B d p s ((mkss k0 zss).take k ++ zss.drop k) ∧ OnlyP B d p w wr) (fun _ i _ => len - (intOf i).toNat)
  case atStart => exact ⟨0, Nat.zero_le _, rfl, by simp [bsum], by simpa using unhide HM, OnlyP.refl _ _ _ _⟩
  case round =>
    obtain ⟨k, hk, rfl, rfl, hm, ho⟩ := hrel
    clear HM
    by_cases hlt : k < len
    · obtain ⟨z, hit⟩ : ∃ z, zss[k]? = some z := ⟨_, List.getElem?_eq_getElem (by rw [← unhide HLEN]; exact hlt)⟩
      have hat := (take_drop_at (mkss k0 zss) zss k (unhide HML)).trans hit
      obtain ⟨b, off, e, ha, hbB, hblt, hbd, hcb, hcell, hfz, hst⟩ := hm.swap hat
      have hc := hcell 0 _ rfl
      simp only [show bytesK.m = 1 from rfl, Nat.mul_one, Nat.add_zero] at hc
      have hma := (unhide HMA) k z hit
      have hsn := (unhide HSN) k z hit
      have hle1 := (unhide HLE) (k + 1)
      have hzl : z.length ≤ 1048576 := by omega
      obtain ⟨ks, hks⟩ : ∃ ks, ks = bsum (zss.take k) := ⟨_, rfl⟩
      rw [← hks] at hsn hma ⊢
      have hksl : ks ≤ 1048576 := by omega
      have hBr : B ≤ wr.heap.size := Nat.le_trans hB ho.1.size
      have HC := hide (markB_p B d (p ++ [k]) e z (k0 + ks) wr hcb hBr hzl (by omega) (by omega))
      have HST : Hid (∀ w', BOwn w' B d (p ++ [k]) e (marks (k0 + ks) z.length) → OnlyP B d (p ++ [k]) wr w' → RowOwn bytesK 60 w' B d p s ((mkss k0 zss).take (k + 1) ++ zss.drop (k + 1)) ∧ OnlyP B d p w w') := fun w' hb hw => by
        have := hst w' _ hw hb rfl
        rw [take_drop_set _ _ k _ (unhide HML) hma] at this
        exact ⟨this, ho.trans hw.up⟩
      have HSN2 : Hid (bsum (zss.take (k + 1)) = ks + z.length) := hsn
      have k1 : (0 : Int) ≤ (k : Int) := by omega
      have k2 : (k : Int) < (len : Int) := by omega
      rw [unhide HSA] at ha
      subst ha
      generalize z.length = zl at HC HST HSN2 hzl
      clear hsn hle1 hit ho hks hm hat hcb hst hma hcell hfz
      go_wp2_with fail
      refine (unhide HC).mono ?_
      rintro e w2 ⟨rfl, b2, g2⟩
      obtain ⟨m2, o2⟩ := (unhide HST) w2 b2 g2
      have HM2 := hide m2
      have HO2 := hide o2
      clear m2 o2 g2 b2
      go_wp2_with fail
      go_roundw
      case rel => exact ⟨k + 1, by omega, by go_num, by rw [unhide HSN2]; congr 1; omega, unhide HM2, unhide HO2⟩
      case measure => simp [intOf]; omega
    · obtain rfl : k = len := by omega
      have et : zss.take k = zss := List.take_of_length_le (by rw [← unhide HLEN]; exact Nat.le_refl _)
      have em : (mkss k0 zss).take k ++ zss.drop k = mkss k0 zss := by rw [List.take_of_length_le (by rw [unhide HML, ← unhide HLEN]; exact Nat.le_refl _), List.drop_eq_nil_of_le (by rw [← unhide HLEN]; exact Nat.le_refl _), List.append_nil]
      rw [et]
      rw [em] at hm
      have HO := hide ho
      have HM := hide hm
      clear hm ho et em
      go_wp2_with fail
      go_ret
      exact ⟨rfl, unhide HM, unhide HO⟩

end Go.Proofs.YtldiilmpmcbjkaaGreatDoor
