/- What is proved here: what the model's l7Less answers, outright. -/
import Derived.Test.YtdmcmlcmgbbclaaGreatJ11
import Derived.Test.YtdmcmlcmgbbclaaGreatJ12
import Derived.Test.YtdmcmlcmgbbclaaGreatJ9
import Derived.Test.YtdmcmlcmgbbclaaGreatJ7
import Derived.Test.YtdmcmlcmgbbclaaGreatJ10
import Derived.Maps.RangeWalk
namespace Go.Proofs.YtdmcmlcmgbbclaaGreat
set_option linter.unusedVariables false
set_option linter.unusedSimpArgs false
open Go.RowKit
set_option maxRecDepth 100000

theorem copyOk : CopyOk := fun e x w o m => l7Copy_any e x w o m

theorem l7Less_any (e : SnS) (x : Sn) (w : World) (o : SNK.Ok w e x) (m : SnSm x) (sa sb : Sl) (za zb : List Int) (oa : BOk w sa za) (ob : BOk w sb zb) :
    Calls Tryz.prog 90 #[.agg (snvals e x), .slice sa.a sa.n sa.c, .slice sb.a sb.n sb.c] w fun r w' => ∃ (e' : SnS) (d : Nat → Path) (B : Nat), r = .returned (.agg (snvals e' (lessSn x za zb))) ∧ w.heap.size + 2 ≤ B ∧ B ≤ w'.heap.size ∧ RowG vtK 97 w' B d [] e'.2.2.2 (lessSn x za zb).2.2.2 ∧ (∀ W : World, (∀ g, w.heap.size + 2 ≤ g → g < B → W.heap[g]? = w'.heap[g]?) → RowOk bytesK W e'.2.1 x.2.1 ∧ RowOk rcK W e'.2.2.1 x.2.2.1) ∧ Below w.heap.size w w' :=
 l7Less_of copyOk e x w o m sa sb za zb oa ob

set_option maxRecDepth 100000

theorem u8_inv {d : Nat} {c : Value} {l : List Lit} (h : Tryz.prog.keyLits (d + 1) 5 [c] = some l) : ∃ z, c = .int .u8 z ∧ 0 ≤ z ∧ z ≤ 255 := by
 unfold Program.keyLits at h
 rw [Tryz.underlying5] at h
 cases c <;> simp at h
 rename_i q n
 obtain ⟨⟨rfl, hw⟩, _⟩ := h
 have e1 : IntKind.u8.min = 0 := rfl
 have e2 : IntKind.u8.max = 255 := rfl
 simp [Lit.wf, e1, e2] at hw
 exact ⟨n, rfl, hw.1, hw.2⟩

theorem addr_inv {d : Nat} {c0 c1 c2 c3 : Value} {l : List Lit} (h : Tryz.prog.keyLits (d + 2) 115 [c0, c1, c2, c3] = some l) : ∃ z0 z1 z2 z3, (c0 = .int .u8 z0 ∧ 0 ≤ z0 ∧ z0 ≤ 255) ∧ (c1 = .int .u8 z1 ∧ 0 ≤ z1 ∧ z1 ≤ 255) ∧ (c2 = .int .u8 z2 ∧ 0 ≤ z2 ∧ z2 ≤ 255) ∧ (c3 = .int .u8 z3 ∧ 0 ≤ z3 ∧ z3 ≤ 255) := by
 unfold Program.keyLits at h
 rw [Tryz.underlying115] at h
 simp only [cellsU8, cellsAddr] at h
 have e : List.range 4 = [0, 1, 2, 3] := rfl
 rw [e] at h
 simp [List.mapM_cons, Option.bind_eq_some_iff] at h
 obtain ⟨_, h0, _, ⟨_, h1, _, ⟨_, h2, _, ⟨_, h3, _⟩, _⟩, _⟩, _⟩ := h
 obtain ⟨z0, q0⟩ := u8_inv h0
 obtain ⟨z1, q1⟩ := u8_inv h1
 obtain ⟨z2, q2⟩ := u8_inv h2
 obtain ⟨z3, q3⟩ := u8_inv h3
 exact ⟨z0, z1, z2, z3, q0, q1, q2, q3⟩

theorem ballot_inv {d : Nat} {c0 c1 c2 c3 c4 c5 c6 c7 : Value} {l : List Lit} (h : Tryz.prog.keyLits (d + 3) 117 [c0, c1, c2, c3, c4, c5, c6, c7] = some l) :
    (∃ l', Tryz.prog.keyLits (d + 2) 115 [c0, c1, c2, c3] = some l') ∧ ∃ l', Tryz.prog.keyLits (d + 2) 115 [c4, c5, c6, c7] = some l' := by
 unfold Program.keyLits at h
 rw [Tryz.underlying117] at h
 simp [cellsBallot, cellsAddr, Option.bind_eq_some_iff] at h
 obtain ⟨_, h0, _, ⟨_, h1, _⟩, _⟩ := h
 exact ⟨⟨_, h0⟩, ⟨_, h1⟩⟩

/-- Each key is two addresses. -/
theorem key_inv {key : Value} {kl : Lit} (h : keyOf Tryz.prog 117 key = some kl) : ∃ z0 z1 z2 z3 y0 y1 y2 y3, key = .agg #[.int .u8 z0, .int .u8 z1, .int .u8 z2, .int .u8 z3, .int .u8 y0, .int .u8 y1, .int .u8 y2, .int .u8 y3] ∧ kl = klOf [z0, z1, z2, z3] [y0, y1, y2, y3] ∧ Adr [z0, z1, z2, z3] ∧ Adr [y0, y1, y2, y3] := by
 have h' := h
 unfold keyOf at h
 rw [Tryz.underlying117] at h
 simp only [Option.ite_none_right_eq_some, Bool.and_eq_true] at h
 obtain ⟨⟨_, hf⟩, hk⟩ := h
 cases key <;> simp [Value.formed, Tryz.underlying117] at hf
 rename_i cs
 rw [cellsBallot] at hf
 obtain ⟨l⟩ := cs
 have hl : l.length = 8 := by simpa using hf
 match l, hl with
 | [c0, c1, c2, c3, c4, c5, c6, c7], _ =>
  simp only [Value.cells, typesSize, Option.map_eq_some_iff] at hk
  obtain ⟨ls, hk, _⟩ := hk
  have hk2 : Tryz.prog.keyLits ((204 - 2) + 3) 117 [c0, c1, c2, c3, c4, c5, c6, c7] = some ls := hk
  obtain ⟨⟨_, a0⟩, ⟨_, a1⟩⟩ := ballot_inv hk2
  obtain ⟨z0, z1, z2, z3, ⟨rfl, r0⟩, ⟨rfl, r1⟩, ⟨rfl, r2⟩, ⟨rfl, r3⟩⟩ := addr_inv a0
  obtain ⟨y0, y1, y2, y3, ⟨rfl, t0⟩, ⟨rfl, t1⟩, ⟨rfl, t2⟩, ⟨rfl, t3⟩⟩ := addr_inv a1
  have e := keyOf_ballot r0 r1 r2 r3 t0 t1 t2 t3
  refine ⟨z0, z1, z2, z3, y0, y1, y2, y3, rfl, Option.some.inj (h'.symm.trans e), ⟨rfl, ?_⟩, ⟨rfl, ?_⟩⟩
  · intro x hx
    simp at hx
    rcases hx with rfl | rfl | rfl | rfl <;> assumption
  · intro x hx
    simp at hx
    rcases hx with rfl | rfl | rfl | rfl <;> assumption

/-- How many votes are on one. -/
def tlOf (t : List Int) (ks : List (List Int × List Int)) : Nat := (ks.filter (fun q => decide (q.2 = t))).length
/-- Of these, those that are no longer to come. -/
def tlCnt (t : List Int) (ks : List (List Int × List Int)) (left : Lit → Bool) : Nat := (ks.filter (fun q => decide (q.2 = t) && !left (klOf q.1 q.2))).length

theorem tlCnt_start {t : List Int} {ks : List (List Int × List Int)} {left : Lit → Bool} (h : ∀ q ∈ ks, left (klOf q.1 q.2) = true) : tlCnt t ks left = 0 := by
 unfold tlCnt
 rw [List.length_eq_zero_iff, List.filter_eq_nil_iff]
 intro q hq
 simp [h q hq]

theorem tlCnt_end {t : List Int} {ks : List (List Int × List Int)} {left : Lit → Bool} (h : ∀ kl, left kl = false) : tlCnt t ks left = tlOf t ks := by
 unfold tlCnt tlOf
 congr 1
 apply List.filter_congr
 intro q _
 simp [h]

theorem tlCnt_step (t a c : List Int) (left : Lit → Bool) (hl : left (klOf a c) = true) (hk : ∀ x : Lit, x.sameKey (klOf a c) = true ↔ x = klOf a c) (ha : Adr a) (hc : Adr c) : ∀ ks : List (List Int × List Int), ks.Nodup → (∀ q ∈ ks, Adr q.1 ∧ Adr q.2) →
    tlCnt t ks (fun z => left z && !z.sameKey (klOf a c)) = tlCnt t ks left + (if (a, c) ∈ ks ∧ c = t then 1 else 0)
 | [], _, _ => by simp [tlCnt]
 | q :: r, hn, hq => by
  have ih := tlCnt_step t a c left hl hk ha hc r (List.nodup_cons.1 hn).2 (fun x hx => hq x (by simp [hx]))
  have hn1 := (List.nodup_cons.1 hn).1
  unfold tlCnt at ih ⊢
  rw [List.filter_cons, List.filter_cons]
  by_cases e : q = (a, c)
  · subst e
    have hs : (klOf a c).sameKey (klOf a c) = true := (hk _).2 rfl
    have e1 : (decide ((a, c).2 = t) && !((fun z => left z && !z.sameKey (klOf a c)) (klOf (a, c).1 (a, c).2))) = decide (c = t) := by simp [hs]
    have e2 : (decide ((a, c).2 = t) && !left (klOf (a, c).1 (a, c).2)) = false := by simp [hl]
    rw [e1, e2]
    by_cases et : c = t
    · rw [decide_eq_true et, if_pos rfl, if_neg (by simp), if_pos ⟨by simp, et⟩, List.length_cons, ih, if_neg (fun h => hn1 h.1)]
    · rw [decide_eq_false et, if_neg (by simp), if_neg (by simp), if_neg (fun h => et h.2), ih, if_neg (fun h => et h.2)]
  · have hne : (klOf q.1 q.2).sameKey (klOf a c) = false := by
      rw [Bool.eq_false_iff]
      intro h
      have h1 := (hk _).1 h
      obtain ⟨e1, e2⟩ := klOf_inj (by rw [(hq q (by simp)).1.1, ha.1]) (hq q (by simp)).1.2 (hq q (by simp)).2.2 ha.2 hc.2 h1
      exact e (by rw [← e1, ← e2])
    have hm : ((a, c) ∈ q :: r) ↔ (a, c) ∈ r := by
     rw [List.mem_cons]
     exact ⟨fun h => h.elim (fun h => absurd h.symm e) id, .inr⟩
    simp only [hne, Bool.not_false, Bool.and_true, hm] at ih ⊢
    split
    · simp only [List.length_cons]
      omega
    · exact ih

set_option maxRecDepth 100000

theorem adr_range {a b c d : Int} (h : Adr [a, b, c, d]) : (0 ≤ a ∧ a ≤ 255) ∧ (0 ≤ b ∧ b ≤ 255) ∧ (0 ≤ c ∧ c ≤ 255) ∧ (0 ≤ d ∧ d ≤ 255) := ⟨h.2 a (by simp), h.2 b (by simp), h.2 c (by simp), h.2 d (by simp)⟩

/-- Two addresses are the same just where their bytes are. -/
theorem eqAddr {x0 x1 x2 x3 y0 y1 y2 y3 : Int} (hx : Adr [x0, x1, x2, x3]) (hy : Adr [y0, y1, y2, y3]) (w : World) :
    (Op.equalIn 10000 115 (.agg #[.int .u8 x0, .int .u8 x1, .int .u8 x2, .int .u8 x3]) (.agg #[.int .u8 y0, .int .u8 y1, .int .u8 y2, .int .u8 y3])).run Tryz.prog w = .ok (decide ([x0, x1, x2, x3] = [y0, y1, y2, y3])) w := by
 obtain ⟨a0, a1, a2, a3⟩ := adr_range hx
 obtain ⟨b0, b1, b2, b3⟩ := adr_range hy
 have hk : Tryz.prog.keyTypeAt 3 115 = true := by kernel_rfl
 have fm : ∀ c0 c1 c2 c3 : Value, (Value.agg #[c0, c1, c2, c3]).formed Tryz.prog 115 = true := fun c0 c1 c2 c3 => by simp [Value.formed, Tryz.underlying115, cellsAddr]
 obtain ⟨r, hr, hi⟩ := run_equalIn_deep 9997 3 115 hk w 2 2 _ _ _ _ (fm _ _ _ _) (fm _ _ _ _) (keyLits_addr 0 a0 a1 a2 a3) (keyLits_addr 0 b0 b1 b2 b3)
 have e : r = decide ([x0, x1, x2, x3] = [y0, y1, y2, y3]) := by
  rw [Bool.eq_iff_iff, hi]
  simp
 rw [← e]
 exact hr

/-- A key's eight bytes. -/
structure Key8 where
 (s0 s1 s2 s3 t0 t1 t2 t3 : Int)
/-- An element's parts. -/
structure Std2 where
 (n : Int)
 (b : Bool)
def Key8.val (x : Key8) : Value := .agg #[.int .u8 x.s0, .int .u8 x.s1, .int .u8 x.s2, .int .u8 x.s3, .int .u8 x.t0, .int .u8 x.t1, .int .u8 x.t2, .int .u8 x.t3]
def Std2.val (x : Std2) : Value := .agg #[.int .i64 x.n, .bool x.b]

set_option maxHeartbeats 4000000 in
theorem tally_any (g k : Nat) (y0 y1 y2 y3 : Int) (ks : List (List Int × List Int)) (w : World) (hp : PollOk w g k ks) (hn : ks.Nodup) (hq : ∀ q ∈ ks, Adr q.1 ∧ Adr q.2) (ht : Adr [y0, y1, y2, y3]) (hk : ks.length ≤ 30) :
    Calls Tryz.prog 78 #[.map (some g), .agg #[.int .u8 y0, .int .u8 y1, .int .u8 y2, .int .u8 y3]] w fun e w' => e = .returned (.int .i64 (tlOf [y0, y1, y2, y3] ks : Nat)) ∧ Below w.heap.size w w' := by
 obtain ⟨D, hown, hhas⟩ := hp
 have ka := SBlk.new w #[.int .u8 y0, .int .u8 y1, .int .u8 y2, .int .u8 y3] 115
 have ba := below_alloc w (.cells #[.int .u8 y0, .int .u8 y1, .int .u8 y2, .int .u8 y3] 115)
 have hgw : g < w.heap.size := hown.lt
 replace hown := hown.alloc (.cells #[.int .u8 y0, .int .u8 y1, .int .u8 y2, .int .u8 y3] 115)
 obtain ⟨W0, e0⟩ : ∃ W, w.alloc (.cells #[.int .u8 y0, .int .u8 y1, .int .u8 y2, .int .u8 y3] 115) = W := ⟨_, rfl⟩
 rw [e0] at ka ba hown
 go_enter Tryz.func78, Tryz.ntmps78
 go_wp2_with (first | (rw [e0]) | (at_range; refine wpList_range_own _ rfl _ 106 rfl 117 121 ballotLaw Tryz.underlying106 standR g k D rfl hown ?_; intro w0 hrg0 hg0 hs0))
 have hw0 : Below W0.heap.size W0 w0 := (Below.refl _ _).grown hg0 (Nat.le_refl _) (fun q e => by cases e)
 have hz := SBlk.lt ka
 have BA := hide ba
 have KA := hide ka
 have HQ := hide hq
 have HN := hide hn
 have HH := hide hhas
 have HO := hide hown
 have HG := hide (And.intro hg0 hs0)
 clear ba ka hq hn hhas hown hg0 hs0
 go_loopw [5] (fun c wr => ∃ left cnt, wr.ranges Tryz.prog 117 standR g W0.heap.size k D left cnt ∧ c = .int .i64 (tlCnt [y0, y1, y2, y3] ks left : Nat) ∧ Below W0.heap.size W0 wr) (fun _ wr => wr.rangeLeft g W0.heap.size)
 case atStart => exact ⟨_, _, hrg0, by rw [tlCnt_start (fun q hq => by rw [(unhide HH) q.1 q.2 ((unhide HQ) q hq).1 ((unhide HQ) q hq).2]; simpa using hq)]; rfl, hw0⟩
 case round =>
  obtain ⟨left, cnt, hrg, rfl, hbr⟩ := hrel
  clear hrg0 hw0
  go_wp2_with (first
   | (at_next; refine wpList_next_ranges (α := Key8) (β := Std2) _ rfl _ rfl 117 ballotLaw standR Key8.val Std2.val (fun key kl h => by obtain ⟨z0, z1, z2, z3, x0, x1, x2, x3, rfl, _⟩ := key_inv h; exact ⟨⟨z0, z1, z2, z3, x0, x1, x2, x3⟩, rfl⟩) (fun v y h => by obtain ⟨n, b, rfl⟩ := standR_inv h; exact ⟨⟨n, b⟩, rfl⟩) g W0.heap.size k D left cnt rfl hrg ?_ ?_)
   | fail)
  · intro _ hl0
    go_wp2_with fail
    go_ret
    exact ⟨by show Ending.returned (Value.int .i64 _) = _; rw [tlCnt_end hl0], (unhide BA).trans (hbr.mono (Nat.le_of_lt hz))⟩
  · intro x c kl ya yb w1 cnt1 hkey hlx hv hat hrg1 hlt hg1 hs1 hen
    obtain ⟨z0, z1, z2, z3, x0, x1, x2, x3⟩ := x
    obtain ⟨pl, bb⟩ := c
    simp only [Key8.val, Std2.val] at hkey hlx hv hat hrg1 hlt hg1 hs1 hen ⊢
    have hb1 : Below W0.heap.size W0 w1 := hbr.grown hg1 hbr.size (fun q e => by cases e; exact Nat.le_refl _)
    have ka1 := (unhide KA).below hb1 hz
    have k0 := (ka1.next (.cells #[.int .u8 z0, .int .u8 z1, .int .u8 z2, .int .u8 z3, .int .u8 x0, .int .u8 x1, .int .u8 x2, .int .u8 x3] 117)).cell 0
    have k1 := (ka1.next (.cells #[.int .u8 z0, .int .u8 z1, .int .u8 z2, .int .u8 z3, .int .u8 x0, .int .u8 x1, .int .u8 x2, .int .u8 x3] 117)).cell 1
    have k2 := (ka1.next (.cells #[.int .u8 z0, .int .u8 z1, .int .u8 z2, .int .u8 z3, .int .u8 x0, .int .u8 x1, .int .u8 x2, .int .u8 x3] 117)).cell 2
    have k3 := (ka1.next (.cells #[.int .u8 z0, .int .u8 z1, .int .u8 z2, .int .u8 z3, .int .u8 x0, .int .u8 x1, .int .u8 x2, .int .u8 x3] 117)).cell 3
    simp only [List.getElem?_cons_zero, List.getElem?_cons_succ] at k0 k1 k2 k3
    have hlt1 := ka1.lt
    obtain ⟨_, _, _, _, _, _, _, _, ek, el, za, xa⟩ := key_inv hkey
    simp only [Value.agg.injEq, Array.mk.injEq, List.cons.injEq, Value.int.injEq, true_and, and_true] at ek
    obtain ⟨rfl, rfl, rfl, rfl, rfl, rfl, rfl, rfl⟩ := ek
    subst el
    have heq := eqAddr xa ht (w1.alloc (.cells #[.int .u8 z0, .int .u8 z1, .int .u8 z2, .int .u8 z3, .int .u8 x0, .int .u8 x1, .int .u8 x2, .int .u8 x3] 117))
    have hin : ([z0, z1, z2, z3], [x0, x1, x2, x3]) ∈ ks := by
     have h1 := Maps.has_true_of_atKey hat
     rw [(unhide HH) _ _ za xa] at h1
     simpa using h1
    have hst := tlCnt_step [y0, y1, y2, y3] [z0, z1, z2, z3] [x0, x1, x2, x3] left hlx (fun x => ⟨fun h => Classical.byContradiction (fun n => by rw [Maps.sameKey_ne n] at h; exact Bool.noConfusion h), fun h => by rw [h]; exact WideAt.sameKey_self (ballotLaw.key hkey)⟩) za xa ks (unhide HN) (unhide HQ)
    have hqb : tlCnt [y0, y1, y2, y3] ks left ≤ 30 := Nat.le_trans (List.length_filter_le _ _) hk
    have HR1 := hide (hrg1.alloc (.cells #[.int .u8 z0, .int .u8 z1, .int .u8 z2, .int .u8 z3, .int .u8 x0, .int .u8 x1, .int .u8 x2, .int .u8 x3] 117))
    have HB1 := hide (hb1.alloc hb1.size (.cells #[.int .u8 z0, .int .u8 z1, .int .u8 z2, .int .u8 z3, .int .u8 x0, .int .u8 x1, .int .u8 x2, .int .u8 x3] 117))
    have HR := hide (And.intro hrg hlt)
    generalize tlCnt [y0, y1, y2, y3] ks left = q at hst hqb ⊢
    by_cases hee : [x0, x1, x2, x3] = [y0, y1, y2, y3]
    · rw [decide_eq_true hee] at heq
      rw [if_pos ⟨hin, hee⟩] at hst
      have HST := hide hst
      clear hkey hlx hat hrg1 hlt hb1 hrg hv ka1 hbr za xa hee hst hin
      go_wp2_with fail
      go_roundw
      case rel => exact ⟨_, cnt1, unhide HR1, by rw [unhide HST]; go_num, unhide HB1⟩
      case measure => rw [(unhide HR1).left_eq, (unhide HR).1.left_eq]; exact (unhide HR).2
    · rw [decide_eq_false hee] at heq
      rw [if_neg (fun h => hee h.2)] at hst
      have HST := hide hst
      clear hkey hlx hat hrg1 hlt hb1 hrg hv ka1 hbr za xa hee hst hin
      go_wp2_with fail
      go_roundw
      case rel => exact ⟨_, cnt1, unhide HR1, by rw [unhide HST]; rfl, unhide HB1⟩
      case measure => rw [(unhide HR1).left_eq, (unhide HR).1.left_eq]; exact (unhide HR).2

set_option maxRecDepth 100000

theorem vtFrom_all {sg : List (List Int)} {vs : List Vt} (h : vtFrom sg vs 0 vs = 0) : ∀ k, k ≤ vs.length → vtFrom sg vs k (vs.drop k) = 0
 | 0, _ => by simpa using h
 | k + 1, hk => by
  have ih := vtFrom_all h k (by omega)
  obtain ⟨v, hv⟩ : ∃ v, vs[k]? = some v := ⟨_, List.getElem?_eq_getElem (by omega)⟩
  rw [vtFrom_step sg vs k v hv] at ih
  split at ih
  · exact ih
  · rename_i hne
    exact absurd ih hne

theorem vtOne_all {sg : List (List Int)} {vs : List Vt} (h : vtFrom sg vs 0 vs = 0) (k : Nat) (v : Vt) (hv : vs[k]? = some v) : vtOne sg (vtKeys (vs.take k)) v = 0 := by
 have hk : k < vs.length := (List.getElem?_eq_some_iff.1 hv).1
 have ih := vtFrom_all h k (by omega)
 rw [vtFrom_step sg vs k v hv] at ih
 split at ih
 · assumption
 · exact ih

theorem vtKeys_nodup {sg : List (List Int)} {vs : List Vt} (h : vtFrom sg vs 0 vs = 0) : (vtKeys vs).Nodup := by
 have hk : ∀ k, k ≤ vs.length → (vtKeys (vs.take k)).Nodup := by
  intro k
  induction k with
  | zero => intro _; simp [vtKeys]
  | succ k ih =>
   intro hk
   obtain ⟨v, hv⟩ : ∃ v, vs[k]? = some v := ⟨_, List.getElem?_eq_getElem (by omega)⟩
   rw [vtKeys_snoc vs k v hv, List.nodup_append]
   refine ⟨ih (by omega), by simp, fun a ha b hb => ?_⟩
   rintro rfl
   simp only [List.mem_singleton] at hb
   subst hb
   exact (vtOne_zero (vtOne_all h k v hv)).2.2.2.2 ha
 have := hk vs.length (Nat.le_refl _)
 rwa [List.take_length] at this

theorem tlOf_snoc (t : List Int) (vs : List Vt) (k : Nat) (v : Vt) (h : vs[k]? = some v) : tlOf t (vtKeys (vs.take (k + 1))) = tlOf t (vtKeys (vs.take k)) + (if v.2.1 = t then 1 else 0) := by
 rw [vtKeys_snoc vs k v h]
 unfold tlOf
 rw [List.filter_append, List.length_append]
 by_cases e : v.2.1 = t <;> simp [e]

theorem tlOf_le (t : List Int) (vs : List Vt) : tlOf t (vtKeys vs) ≤ vs.length := by
 unfold tlOf
 exact Nat.le_trans (List.length_filter_le _ _) (by simp [vtKeys])

/-- The code of TallyOf, and what it tells. -/
def tyCode (x : Sn) (z : List Int) : Int := if snFlt x ≠ 0 then snFlt x else if (z.length == 4) = false then 1 else 0
def tlVal (x : Sn) (z : List Int) : Int := if snFlt x ≠ 0 then 0 else if (z.length == 4) = false then 0 else (tlOf z (vtKeys x.2.2.2) : Nat)

set_option maxHeartbeats 2000000 in
theorem l7Tally_any (g : Nat) (e : SnS) (x : Sn) (T : TypeId) (t : Sl) (z : List Int) (w : World) (sb : SBlk w g (snvals e x).toList T) (o : RowOk vtK w e.2.2.2 x.2.2.2) (oz : BOk w t z) (hl : x.2.2.2.length ≤ 1048576) :
    Calls Tryz.prog 91 #[.pointer (some ⟨g, 0, none⟩), .slice t.a t.n t.c] w fun r w' => r = .returned (.int .i64 (tlOf z (vtKeys x.2.2.2) : Nat)) ∧ w' = w := by
 obtain ⟨ee, e1, e2, a, len, cap⟩ := e
 obtain ⟨x0, x1, x2, vs⟩ := x
 have hil : len = vs.length := o.len
 have HR := hide (fun hp => RowOk.pos o hp)
 have HL := hide hil
 have hln : len ≤ 1048576 := by simp only at hl; omega
 have HZ := hide oz
 have u3 := sb.cell 3
 simp only [snvals, List.getElem?_cons_zero, List.getElem?_cons_succ] at u3
 have HU := hide u3
 simp only at HR
 clear o hil hl oz sb
 go_enter Tryz.func91, Tryz.ntmps91
 go_wp2_with fail
 go_loop [5, 6] (fun c i => ∃ k : Nat, k ≤ len ∧ i = .int .i64 k ∧ c = .int .i64 (tlOf z (vtKeys (vs.take k)) : Nat)) (fun _ i => len - (intOf i).toNat)
 case atStart => exact ⟨0, Nat.zero_le _, rfl, by simp [vtKeys, tlOf]⟩
 case round =>
  obtain ⟨k, hk, rfl, rfl⟩ := hrel
  by_cases hlt : k < len
  · obtain ⟨b, off, ea, hb, hc⟩ := (unhide HR) (by show 0 < len; omega)
    subst ea
    obtain ⟨v, hv⟩ : ∃ v, vs[k]? = some v := ⟨_, List.getElem?_eq_getElem (by rw [← unhide HL]; exact hlt)⟩
    obtain ⟨⟨s0, s1, ⟨⟩⟩, c, oo⟩ := hc k v hv
    have hst := tlOf_snoc z vs k v hv
    have hqb : tlOf z (vtKeys (vs.take k)) ≤ 1048576 := Nat.le_trans (tlOf_le _ _) (by rw [List.length_take]; omega)
    obtain ⟨v0, v1, vb⟩ := v
    have c1 := c 1 _ rfl
    simp only [show vtK.m = 3 from rfl] at c1
    have HQ1 := hide (l1Same_kd s1 t v1 z w oo.2.1 (unhide HZ))
    have i1 : (0 : Int) ≤ (k : Int) := by omega
    have i2 : (k : Int) < (len : Int) := by omega
    generalize tlOf z (vtKeys (vs.take k)) = q at hst hqb ⊢
    have HST := hide hst
    clear hc c oo hst hv
    go_wp2_with fail
    refine (unhide HQ1).mono ?_
    rintro e w2 ⟨rfl, rfl⟩
    by_cases e1 : v1 = z
    · rw [decide_eq_true e1]
      go_wp2_with fail
      go_round
      case rel => exact ⟨k + 1, by omega, by go_num, by rw [unhide HST, if_pos e1]; go_num⟩
      case measure => simp [intOf]; omega
    · rw [decide_eq_false e1]
      go_wp2_with fail
      go_round
      case rel => exact ⟨k + 1, by omega, by go_num, by rw [unhide HST, if_neg e1]; rfl⟩
      case measure => simp [intOf]; omega
  · obtain rfl : k = len := by omega
    rw [List.take_of_length_le (by rw [← unhide HL]; exact Nat.le_refl _)]
    go_wp2_with fail
    go_ret
    exact ⟨rfl, rfl⟩

set_option maxRecDepth 100000

/-- The slices of a row of bytes. -/
theorem RowOk.slices {w : World} {s : Sl} {zss : List (List Int)} (h : RowOk bytesK w s zss) :
    ∃ es : List Sl, es.length = zss.length ∧ (∀ b off, s.a = some ⟨b, off, none⟩ → ∀ i e, es[i]? = some e → w.cell? ⟨b, off + i, none⟩ = some e.v) ∧ ∀ (i : Nat) (e : Sl) (z : List Int), es[i]? = some e → zss[i]? = some z → BOk w e z := by
 have key : ∀ i : Nat, ∃ e : Sl, ∀ z, zss[i]? = some z → (∀ b off, s.a = some ⟨b, off, none⟩ → w.cell? ⟨b, off + i, none⟩ = some e.v) ∧ BOk w e z := fun i => by
  cases hz : zss[i]? with
  | none => exact ⟨⟨none, 0, 0⟩, fun z hz' => by cases hz'⟩
  | some z =>
   have hi := (List.getElem?_eq_some_iff.1 hz).1
   obtain ⟨b, off, ha, _, k⟩ := h.pos (by rw [h.len]; omega)
   obtain ⟨e, q, ho⟩ := k i z hz
   refine ⟨e, fun z' hz' => ?_⟩
   obtain rfl := Option.some.inj hz'
   refine ⟨fun b' off' ha' => ?_, ho⟩
   rw [ha] at ha'
   simp only [Option.some.injEq, Addr.mk.injEq, and_true] at ha'
   obtain ⟨rfl, rfl⟩ := ha'
   have q0 := q 0 _ rfl
   have e1 : bytesK.m = 1 := rfl
   rw [e1, Nat.mul_one, Nat.add_zero] at q0
   exact q0
 obtain ⟨f, hf⟩ := Classical.axiomOfChoice key
 refine ⟨(List.range zss.length).map f, by simp, fun b off ha i e he => ?_, fun i e z he hz => ?_⟩
 · rw [List.getElem?_map] at he
   have hi : i < zss.length := by
    rcases Nat.lt_or_ge i zss.length with h | h
    · exact h
    · rw [List.getElem?_eq_none (by simpa using h)] at he; cases he
   rw [List.getElem?_range hi] at he
   obtain rfl := Option.some.inj he
   exact (hf i _ (List.getElem?_eq_getElem hi)).1 b off ha
 · have hi := (List.getElem?_eq_some_iff.1 hz).1
   rw [List.getElem?_map, List.getElem?_range hi] at he
   obtain rfl := Option.some.inj he
   exact (hf i z hz).2

/-- A row of its own whose slices read. -/
theorem row_own {w : World} {B : Nat} {a : Option Addr} {n c : Nat} {es : List Sl} {zss : List (List Int)} {T : TypeId} (hl : es.length = zss.length) (ho : w.ownsRow B T 1 (.slice a n c) n (es.map Sl.v)) (hk : ∀ (i : Nat) (e : Sl) (z : List Int), es[i]? = some e → zss[i]? = some z → BOk w e z) : RowOk bytesK w ⟨a, n, c⟩ zss := by
 have h := OwnS.of ho
 have hn : n = es.length := by have := ho.1; simp at this; omega
 refine ⟨by show n = _; omega, h.room, h.max, h.nil, fun hp => ?_⟩
 obtain ⟨g, off, ha, hb, hs⟩ := h.pos hp
 refine ⟨g, off, ha, hs, fun i z hz => ?_⟩
 have hi := (List.getElem?_eq_some_iff.1 hz).1
 obtain ⟨e, he⟩ : ∃ e, es[i]? = some e := ⟨_, List.getElem?_eq_getElem (by omega)⟩
 refine ⟨e, fun j v hv => ?_, hk i e z he hz⟩
 have hj : j = 0 := by
  have h1 := (List.getElem?_eq_some_iff.1 hv).1
  rw [bytesK.len] at h1
  have h2 : bytesK.m = 1 := rfl
  omega
 subst hj
 have hv' : e.v = v := Option.some.inj hv
 have e1 : bytesK.m = 1 := rfl
 rw [e1, Nat.mul_one, Nat.add_zero, h.cell ha (by show i < n * 1; omega), List.getElem?_map, he, ← hv']
 rfl

theorem put_slices {es : List Sl} {zss : List (List Int)} {z : List Int} {e0 : Sl} {k : Nat} {w : World} (hl : es.length = zss.length) (hk : k ≤ zss.length) (he : ∀ (i : Nat) (e : Sl) (y : List Int), es[i]? = some e → zss[i]? = some y → BOk w e y) (h0 : BOk w e0 z) :
    (es.take k ++ [e0] ++ es.drop k).length = (zss.take k ++ [z] ++ zss.drop k).length ∧ ∀ (i : Nat) (e : Sl) (y : List Int), (es.take k ++ [e0] ++ es.drop k)[i]? = some e → (zss.take k ++ [z] ++ zss.drop k)[i]? = some y → BOk w e y := by
 refine ⟨by simp [hl], fun i e y h1 h2 => ?_⟩
 rw [List.append_assoc] at h1 h2
 rcases Nat.lt_trichotomy i k with hi | hi | hi
 · rw [List.getElem?_append_left (by rw [List.length_take]; omega), List.getElem?_take, if_pos hi] at h1 h2
   exact he i e y h1 h2
 · subst hi
   rw [List.getElem?_append_right (by rw [List.length_take]; omega)] at h1 h2
   rw [List.length_take, Nat.min_eq_left (by omega), Nat.sub_self] at h1
   rw [List.length_take, Nat.min_eq_left (by omega), Nat.sub_self] at h2
   obtain rfl := Option.some.inj h1
   obtain rfl := Option.some.inj h2
   exact h0
 · rw [List.getElem?_append_right (by rw [List.length_take]; omega)] at h1 h2
   rw [List.length_take, Nat.min_eq_left (by omega), show i - k = (i - k - 1) + 1 by omega] at h1
   rw [List.length_take, Nat.min_eq_left (by omega), show i - k = (i - k - 1) + 1 by omega] at h2
   simp only [List.singleton_append, List.getElem?_cons_succ, List.getElem?_drop] at h1 h2
   exact he _ e y h1 h2

/-- append onto a row of its own, of however many, as one step of a region that draws. -/
theorem step_append_own' {P : Program} (w : World) {ops : Array Oper} {o : Oper} {a : Act} {K : Act → World → Prop} {Q : Exit → Act → World → Prop} {E : Prop} (hgd : o.guard = none) (s x : Operand) (t : TypeId)
    (ho : o.op = .call { callee := .builtin .append, args := #[s, x], argTypes := #[t, t] })
    (base : Nat) (e : TypeId) (i : TypeInfo) (z : Value) (size bytes : Nat) (ht : P.underlying t = some (.slice e)) (hi : P.info? e = some i) (hz : i.zero = some z)
    (hsize : i.size = size) (hby : i.bytes = bytes) (hzs : z.cells.size = size) (hsz : 0 < size)
    (v : Value) (n : Nat) (xs : List Value) (hs : a.eval s = v) (hown : w.ownsRow base e size v n xs)
    (ad : Addr) (m c : Nat) (news : List Value) (hx : a.eval x = .slice (some ad) m c) (hl : news.length = m * size) (hnews : ∀ j u, news[j]? = some u → w.cell? (ad.add j) = some u) (h1 : ∀ u ∈ news, u.oneCell' = true)
    (h63 : n + m ≤ maxLen) (hbytes : (n + m) * bytes ≤ 140737488355328) (hbase : base ≤ w.heap.size)
    (h : ∀ v' w', w'.ownsRow base e size v' (n + m) (xs ++ news) → w.grownBy w' v.ownBlock → K (a.put o.dst v') w') :
    if Region.wanted o (yielded ops a.tmps) = true then Oper.wp P o a w K Q else E := by
 have hw : Region.wanted o (yielded ops a.tmps) = true := by simp [Region.wanted, hgd]
 rw [if_pos hw]
 exact wp_append_own w s x t ho base e i z size bytes ht hi hz hsize hby hzs hsz v n xs hs hown ad m c news hx hl hnews h1 h63 hbytes hbase (fun v' w' h2 h3 _ => h v' w' h2 h3)

theorem BOk.of_own {w : World} {B : Nat} {a : Option Addr} {n c : Nat} {z : List Int} (h : w.ownsRow B 5 1 (.slice a n c) n (z.map (Value.int .u8))) (hr : ∀ x ∈ z, 0 ≤ x ∧ x ≤ 255) : BOk w ⟨a, n, c⟩ z :=
 ⟨BRow.own2 h hr, (OwnS.of h).room, (OwnS.of h).max, (OwnS.of h).nil⟩

theorem own_val {w : World} {B : Nat} {T : TypeId} {m n : Nat} {v : Value} {xs : List Value} (h : w.ownsRow B T m v n xs) : ∃ a c, v = .slice a n c := by
 rcases h.2 with ⟨h', h0⟩ | ⟨g, cap, cur, h', _⟩
 · exact ⟨none, 0, by rw [h', h0]⟩
 · exact ⟨_, _, h'⟩

/-- A row to which a part of the old one, a new slice and the rest were appended. -/
theorem put_done {w w5 W1 WA W2 W3 : World} {v5 : Value} {a1 : Option Addr} {c1 tn g2 k : Nat} {es : List Sl} {zss : List (List Int)} {z : List Int} {T : TypeId} {vs5 : List Value}
    (hb5 : Below w.heap.size w w5) (h5 : w5.ownsRow w.heap.size T 1 v5 k vs5) (b1 : Below w5.heap.size w5 W1) (o1 : W1.ownsRow w5.heap.size 5 1 (.slice a1 tn c1) tn (z.map (Value.int .u8))) (hr : ∀ x ∈ z, 0 ≤ x ∧ x ≤ 255)
    (bA : Below W1.heap.size W1 WA) (g : WA.grownBy W2 v5.ownBlock) (hat : v5.ownBlock = some g2 ∨ g2 = WA.heap.size) :
    Below w.heap.size w W2 ∧ (∀ n6 v6, W3.ownsRow w.heap.size T 1 v6 n6 ((es.take k ++ [(⟨a1, tn, c1⟩ : Sl)] ++ es.drop k).map Sl.v) → W2.grownBy W3 (some g2) → es.length = zss.length → k ≤ zss.length →
     ∃ s' : Sl, v6 = .slice s'.a s'.n s'.c ∧ (∀ W : World, (∀ g, w.heap.size ≤ g → g < W3.heap.size → W.heap[g]? = W3.heap[g]?) → (∀ (i : Nat) (e : Sl) (y : List Int), es[i]? = some e → zss[i]? = some y → BOk W e y) → RowOk bytesK W s' (zss.take k ++ [z] ++ zss.drop k)) ∧ Below w.heap.size w W3) := by
 have hs5 := hb5.size
 have hs1 := b1.size
 have hsA := bA.size
 have hob : ∀ q, v5.ownBlock = some q → w.heap.size ≤ q ∧ q < w5.heap.size := fun q e => h5.lt q e
 have bwA : Below w.heap.size w WA := (hb5.trans (b1.mono hs5)).trans (bA.mono (by omega))
 have bw2 : Below w.heap.size w W2 := bwA.grown g (by omega) (fun q e => (hob q e).1)
 refine ⟨bw2, fun n6 v6 hown3 g3 el hk => ?_⟩
 have hg2 : w.heap.size ≤ g2 := by
  rcases hat with h | h
  · exact (hob g2 h).1
  · omega
 have bw3 : Below w.heap.size w W3 := bw2.grown g3 bw2.size (fun q e => by obtain rfl := Option.some.inj e; exact hg2)
 obtain ⟨a6, c6, rfl⟩ := own_val hown3
 have o3 : W3.ownsRow w5.heap.size 5 1 (.slice a1 tn c1) tn (z.map (Value.int .u8)) := own_frame o1 (fun x hx => by
  have hx1 := o1.lt x.block (by rw [hx]; rfl)
  rw [g3.block x.block (by have := g.size; omega) (fun e => by
   have e' : g2 = x.block := Option.some.inj e.symm
   rcases hat with h | h
   · have := (hob g2 h).2; omega
   · omega)]
  rw [g.block x.block (by omega) (fun e => by have := (hob _ e.symm).2; omega)]
  exact bA.block x.block hx1.2)
 refine ⟨⟨a6, n6, c6⟩, rfl, fun W hW eo => ?_, bw3⟩
 have own : W.ownsRow w.heap.size T 1 (.slice a6 n6 c6) n6 ((es.take k ++ [(⟨a1, tn, c1⟩ : Sl)] ++ es.drop k).map Sl.v) := own_frame hown3 (fun x hx => by have := hown3.lt x.block (by rw [hx]; rfl); exact hW _ this.1 this.2)
 have oW : W.ownsRow w5.heap.size 5 1 (.slice a1 tn c1) tn (z.map (Value.int .u8)) := own_frame o3 (fun x hx => by have := o3.lt x.block (by rw [hx]; rfl); exact hW _ (by omega) this.2)
 obtain ⟨p1, p2⟩ := put_slices el hk eo (BOk.of_own oW hr)
 exact row_own p1 own p2

/-- The end of a row. -/
theorem RowOk.tail {α β : Type} {K : Kd α β} {w : World} {b off n c : Nat} {xs : List α} (h : RowOk K w ⟨some ⟨b, off, none⟩, n, c⟩ xs) (q o' : Nat) (hq : q ≤ n) (ho : ¬ c = q → o' = off + q * K.m) : RowOk K w ⟨some ⟨b, o', none⟩, n - q, c - q⟩ (xs.drop q) := by
 have hl : n = xs.length := h.len
 have hr : n ≤ c := h.room
 have hm : c ≤ maxLen := h.max
 refine ⟨by show n - q = _; rw [List.length_drop, hl], (by show n - q ≤ c - q; omega), (by show c - q ≤ maxLen; omega), (fun e => by cases e), fun hp => ?_⟩
 have hp' : 0 < n - q := hp
 obtain ⟨b', off', ha, hb, k⟩ := h.pos (by show 0 < n; omega)
 simp only [Option.some.injEq, Addr.mk.injEq, and_true] at ha
 obtain ⟨rfl, rfl⟩ := ha
 refine ⟨b, o', rfl, hb, fun i x hx => ?_⟩
 rw [List.getElem?_drop] at hx
 obtain ⟨e, q1, q2⟩ := k (q + i) x hx
 refine ⟨e, fun j v hv => ?_, q2⟩
 have := q1 j v hv
 rw [ho (by omega), show off + q * K.m + i * K.m + j = off + (q + i) * K.m + j by rw [Nat.add_mul]; omega]
 exact this

theorem out_slices {es : List Sl} {zss : List (List Int)} {k : Nat} {w : World} (hl : es.length = zss.length) (he : ∀ (i : Nat) (e : Sl) (y : List Int), es[i]? = some e → zss[i]? = some y → BOk w e y) :
    (es.take k ++ es.drop (k + 1)).length = (zss.take k ++ zss.drop (k + 1)).length ∧ ∀ (i : Nat) (e : Sl) (y : List Int), (es.take k ++ es.drop (k + 1))[i]? = some e → (zss.take k ++ zss.drop (k + 1))[i]? = some y → BOk w e y := by
 refine ⟨by simp [hl], fun i e y h1 h2 => ?_⟩
 by_cases hi : i < (es.take k).length
 · have hi2 : i < (zss.take k).length := by rw [List.length_take] at hi ⊢; omega
   have hik : i < k := by rw [List.length_take] at hi; omega
   rw [List.getElem?_append_left hi, List.getElem?_take, if_pos hik] at h1
   rw [List.getElem?_append_left hi2, List.getElem?_take, if_pos hik] at h2
   exact he i e y h1 h2
 · have hi2 : ¬ i < (zss.take k).length := by rw [List.length_take] at hi ⊢; omega
   rw [List.getElem?_append_right (by omega), List.getElem?_drop] at h1
   rw [List.getElem?_append_right (by omega), List.getElem?_drop] at h2
   have e1 : (es.take k).length = (zss.take k).length := by rw [List.length_take, List.length_take, hl]
   rw [e1] at h1
   exact he _ e y h1 h2

/-- A row of votes to which one more was appended: it reads wherever its blocks stand. -/
theorem cast_row {w5 W6 W1 W1' WA W2 : World} {B gs : Nat} {d : Nat → Path} {v5 : Sl} {fv : List Vt} {za zb : List Int} {add : Bool} {a1 a2 : Option Addr} {n1 c1 n2 c2 g2 cap2 : Nat} {T : TypeId} {es : List VtS}
    (hB : B ≤ w5.heap.size) (hgs : gs = w5.heap.size) (b56 : Below w5.heap.size w5 W6) (hg6 : gs < W6.heap.size)
    (hlen : v5.n = fv.length) (e2 : es.length = fv.length) (hcol : ∀ x, v5.a = some x → d x.block = []) (hblk : ∀ x, v5.a = some x → B ≤ x.block ∧ x.block < w5.heap.size) (e5 : ∀ i e x, es[i]? = some e → fv[i]? = some x → vtK.Own w5 B d ([] ++ [i]) e x)
    (b1 : Below W6.heap.size W6 W1) (o1 : W1.ownsRow W6.heap.size 5 1 (.slice a1 n1 c1) n1 (za.map (Value.int .u8))) (ra : ∀ x ∈ za, 0 ≤ x ∧ x ≤ 255)
    (b2 : Below W1.heap.size W1 W1') (o2 : W1'.ownsRow W1.heap.size 5 1 (.slice a2 n2 c2) n2 (zb.map (Value.int .u8))) (rb : ∀ x ∈ zb, 0 ≤ x ∧ x ≤ 255) (bA : Below W1'.heap.size W1' WA)
    (hown : W2.ownsRow B T 3 (.slice (some ⟨g2, 0, none⟩) (v5.n + 1) cap2) (v5.n + 1) (flatV vtK es fv ++ [.slice a1 n1 c1, .slice a2 n2 c2, .bool add]))
    (hg : WA.grownBy W2 (Value.slice v5.a v5.n v5.c).ownBlock) (hat : (Value.slice v5.a v5.n v5.c).ownBlock = some g2 ∨ g2 = WA.heap.size) :
    (∀ g, g < w5.heap.size → (∀ x, v5.a = some x → ¬ g = x.block) → W2.heap[g]? = w5.heap[g]?) ∧ (∀ g, g < W6.heap.size → B ≤ g → (∀ x, v5.a = some x → ¬ g = x.block) → W2.heap[g]? = W6.heap[g]?) ∧ ∀ W : World, (∀ g, B ≤ g → g < W2.heap.size → ¬ g = gs → W.heap[g]? = W2.heap[g]?) → RowOk vtK W ⟨some ⟨g2, 0, none⟩, v5.n + 1, cap2⟩ (fv ++ [(za, zb, add)]) := by
 have s56 := b56.size
 have s1 := b1.size
 have s2 := b2.size
 have sA := bA.size
 have sg := hg.size
 have hob : ∀ g, (Value.slice v5.a v5.n v5.c).ownBlock = some g → ∃ x, v5.a = some x ∧ x.block = g := fun g hg' => by
  cases ha : v5.a with
  | none => rw [ha] at hg'; cases hg'
  | some y => rw [ha] at hg'; exact ⟨y, rfl, Option.some.inj hg'⟩
 have kA : ∀ g, g < W6.heap.size → WA.heap[g]? = W6.heap[g]? := fun g h => by rw [bA.block g (by omega), b2.block g (by omega), b1.block g h]
 have k6 : ∀ g, g < W6.heap.size → (∀ x, v5.a = some x → ¬ g = x.block) → W2.heap[g]? = W6.heap[g]? := fun g h hn => by
  rw [hg.block g (by omega) (fun e => by obtain ⟨x, hx, e'⟩ := hob g e.symm; exact hn x hx e'.symm)]
  exact kA g h
 have k5 : ∀ g, g < w5.heap.size → (∀ x, v5.a = some x → ¬ g = x.block) → W2.heap[g]? = w5.heap[g]? := fun g h hn => (k6 g (by omega) hn).trans (b56.block g h)
 refine ⟨k5, fun g h _ hn => k6 g h hn, fun W hW => ?_⟩
 have hgB : B ≤ g2 ∧ g2 < W2.heap.size := hown.lt g2 rfl
 have hg2 : ¬ g2 = gs := by
  rcases hat with h | h
  · obtain ⟨x, hx, e⟩ := hob g2 h
    have := (hblk x hx).2
    omega
  · omega
 have far : ∀ g, W6.heap.size ≤ g → g < WA.heap.size → W.heap[g]? = WA.heap[g]? := fun g h1 h2 => by
  rw [hW g (by omega) (by omega) (by omega)]
  exact hg.block g h2 (fun e => by obtain ⟨x, hx, e'⟩ := hob g e.symm; have := (hblk x hx).2; omega)
 have ow1 : W.ownsRow W6.heap.size 5 1 (.slice a1 n1 c1) n1 (za.map (Value.int .u8)) := own_frame o1 (fun x hx => by
  have := o1.lt x.block (by rw [hx]; rfl)
  rw [far x.block this.1 (by omega), bA.block x.block (by omega), b2.block x.block this.2])
 have ow2 : W.ownsRow W1.heap.size 5 1 (.slice a2 n2 c2) n2 (zb.map (Value.int .u8)) := own_frame o2 (fun x hx => by
  have := o2.lt x.block (by rw [hx]; rfl)
  rw [far x.block (by omega) (by omega), bA.block x.block this.2])
 have h := OwnS.of hown
 have hfl := flatV_snoc vtK es fv ((⟨a1, n1, c1⟩, ⟨a2, n2, c2⟩, ()) : VtS) (za, zb, add) e2
 refine ⟨by simp [hlen], h.room, h.max, (fun e => by cases e), fun _ => ⟨g2, 0, rfl, ?_, fun i x hx => ?_⟩⟩
 · have hbk : W.heap[g2]? = W2.heap[g2]? := hW g2 hgB.1 hgB.2 hg2
   rcases Nat.lt_or_ge g2 W.heap.size with h' | h'
   · exact h'
   · rw [Array.getElem?_eq_none h', Array.getElem?_eq_getElem hgB.2] at hbk
     cases hbk
 · have hi := (List.getElem?_eq_some_iff.1 hx).1
   simp at hi
   obtain ⟨e, he⟩ : ∃ e, (es ++ [((⟨a1, n1, c1⟩, ⟨a2, n2, c2⟩, ()) : VtS)])[i]? = some e := ⟨_, List.getElem?_eq_getElem (by simp; omega)⟩
   refine ⟨e, fun j v hv => ?_, ?_⟩
   · have hj : j < vtK.m := by have := (List.getElem?_eq_some_iff.1 hv).1; rw [vtK.len] at this; exact this
     have q := flatV_at vtK _ _ i j e x v he hx hv
     rw [hfl] at q
     have hm : vtK.m = 3 := rfl
     rw [World.cell?_of_block (w := W2) (a := ⟨g2, 0 + i * vtK.m + j, none⟩) (hW g2 hgB.1 hgB.2 hg2), Nat.add_assoc, h.cell rfl (by show i * vtK.m + j < (v5.n + 1) * 3; have := row_index (m := 3) (i := i) (j := j) (n := v5.n + 1) (by omega) (by omega); rw [hm]; exact this)]
     exact q
   · by_cases hik : i < fv.length
     · rw [List.getElem?_append_left (by omega)] at he
       rw [List.getElem?_append_left hik] at hx
       exact vtK.ok (vtK.frame (e5 i e x he hx) (fun g h1 h2 h3 => by
        have hn : ∀ y, v5.a = some y → ¬ g = y.block := fun y hy e' => by
         rw [e', hcol y hy] at h3
         have := h3.length_le
         simp at this
        rw [hW g h2 (by omega) (by omega)]
        exact k5 g h1 hn))
     · obtain rfl : i = fv.length := by omega
       rw [← e2, List.getElem?_concat_length] at he
       rw [List.getElem?_concat_length] at hx
       obtain rfl := Option.some.inj he
       obtain rfl := Option.some.inj hx
       exact ⟨BOk.of_own ow1 ra, BOk.of_own ow2 rb, trivial⟩

/-- An address put among addresses. -/
def putL (zss : List (List Int)) (z : List Int) : List (List Int) := zss.take (plB zss z) ++ [z] ++ zss.drop (plB zss z)
/-- A list without the one at a place. -/
def outL {α : Type} (xs : List α) (k : Nat) : List α := xs.take k ++ xs.drop (k + 1)

theorem putL_length (zss : List (List Int)) (z : List Int) : (putL zss z).length = zss.length + 1 := by
 have := plB_le zss z
 unfold putL
 rw [List.length_append, List.length_append, List.length_take, List.length_drop]
 simp
 omega

/-- What comes of a snapshot in which more than half want something. -/
def wonIn (x : Sn) (t : List Int) : Sn := (x.1, putL x.2.1 t, x.2.2.1, (lessSn x [] t).2.2.2)
def keepLast {α : Type} (xs : List α) (h : Nat) : List α := if h < xs.length then xs.drop (xs.length - h) else xs
def wonOut (x : Sn) (t : List Int) : Sn := (x.1, outL x.2.1 (atFrom t 0 x.2.1).toNat, keepLast x.2.2.1 ((outL x.2.1 (atFrom t 0 x.2.1).toNat).length / 2), (lessSn (lessSn x [] t) t []).2.2.2)
def wonCode (x : Sn) (add : Bool) : Int := if add = true ∧ 7 ≤ x.2.1.length then 10 else 0
def wonSn (x : Sn) (t : List Int) (add : Bool) : Sn := if add = true then (if 7 ≤ x.2.1.length then x else wonIn x t) else if x.2.1.length = 1 then x else wonOut x t

/-- What a vote makes of a snapshot. -/
def withVt (x : Sn) (s t : List Int) (add : Bool) : Sn := (x.1, x.2.1, x.2.2.1, (lessSn x s t).2.2.2 ++ [(s, t, add)])
def ctCode (x : Sn) (s t : List Int) (add : Bool) : Int :=
 if add = decide (t ∈ x.2.1) then 0 else if 30 ≤ (lessSn x s t).2.2.2.length then 2
 else if 2 * tlOf t (vtKeys (withVt x s t add).2.2.2) ≤ x.2.1.length then 0 else wonCode (withVt x s t add) add
def ctSn (x : Sn) (s t : List Int) (add : Bool) : Sn :=
 if add = decide (t ∈ x.2.1) then lessSn x s t else if 30 ≤ (lessSn x s t).2.2.2.length then x
 else if 2 * tlOf t (vtKeys (withVt x s t add).2.2.2) ≤ x.2.1.length then withVt x s t add else wonSn (withVt x s t add) t add

end Go.Proofs.YtdmcmlcmgbbclaaGreat
