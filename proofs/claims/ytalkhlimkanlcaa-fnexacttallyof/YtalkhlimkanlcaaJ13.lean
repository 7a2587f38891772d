/- What is proved here: each key of the program's poll is two addresses; counts over votes. -/
import Derived.Test.YtalkhlimkanlcaaJ8
import Derived.Test.YtalkhlimkanlcaaJ11
import Derived.Maps.RangeWalk
namespace Go.Proofs.Ytalkhlimkanlcaa
open Go.RowKit
set_option linter.unusedVariables false
set_option maxRecDepth 100000

theorem u8_inv {d : Nat} {c : Value} {l : List Lit} (h : Try.prog.keyLits (d + 1) 5 [c] = some l) : ∃ z, c = .int .u8 z ∧ 0 ≤ z ∧ z ≤ 255 := by
  unfold Program.keyLits at h
  rw [Try.underlying5] at h
  cases c <;> simp at h
  rename_i q n
  obtain ⟨⟨rfl, hw⟩, _⟩ := h
  have e1 : IntKind.u8.min = 0 := rfl
  have e2 : IntKind.u8.max = 255 := rfl
  simp [Lit.wf, e1, e2] at hw
  exact ⟨n, rfl, hw.1, hw.2⟩

theorem addr_inv {d : Nat} {c0 c1 c2 c3 : Value} {l : List Lit} (h : Try.prog.keyLits (d + 2) 78 [c0, c1, c2, c3] = some l) : ∃ z0 z1 z2 z3, (c0 = .int .u8 z0 ∧ 0 ≤ z0 ∧ z0 ≤ 255) ∧ (c1 = .int .u8 z1 ∧ 0 ≤ z1 ∧ z1 ≤ 255) ∧ (c2 = .int .u8 z2 ∧ 0 ≤ z2 ∧ z2 ≤ 255) ∧ (c3 = .int .u8 z3 ∧ 0 ≤ z3 ∧ z3 ≤ 255) := by
  unfold Program.keyLits at h
  rw [Try.underlying78] at h
  simp only [cellsU8, cellsAddr] at h
  have e : List.range 4 = [0, 1, 2, 3] := rfl
  rw [e] at h
  simp [List.mapM_cons, Option.bind_eq_some_iff] at h
  obtain ⟨_, h0, _, ⟨_, h1, _, ⟨_, h2, _, ⟨_, h3, _⟩, _⟩, _⟩, _⟩ := h
  obtain ⟨z0, q0⟩ := u8_inv h0
  obtain ⟨z1, q1⟩ := u8_inv h1
  obtain ⟨z2, q2⟩ := u8_inv h2
  obtain ⟨z3, q3⟩ := u8_inv h3
  exact ⟨z0, z1, z2, z3, q0, q1, q2, q3⟩

theorem ballot_inv {d : Nat} {c0 c1 c2 c3 c4 c5 c6 c7 : Value} {l : List Lit} (h : Try.prog.keyLits (d + 3) 106 [c0, c1, c2, c3, c4, c5, c6, c7] = some l) :
    (∃ l', Try.prog.keyLits (d + 2) 78 [c0, c1, c2, c3] = some l') ∧ ∃ l', Try.prog.keyLits (d + 2) 78 [c4, c5, c6, c7] = some l' := by
  unfold Program.keyLits at h
  rw [Try.underlying106] at h
  simp [cellsBallot, cellsAddr, Option.bind_eq_some_iff] at h
  obtain ⟨_, h0, _, ⟨_, h1, _⟩, _⟩ := h
  exact ⟨⟨_, h0⟩, ⟨_, h1⟩⟩

/-- Each key is two addresses. -/
theorem key_inv {key : Value} {kl : Lit} (h : keyOf Try.prog 106 key = some kl) : ∃ z0 z1 z2 z3 y0 y1 y2 y3, key = .agg #[.int .u8 z0, .int .u8 z1, .int .u8 z2, .int .u8 z3, .int .u8 y0, .int .u8 y1, .int .u8 y2, .int .u8 y3] ∧ kl = klOf [z0, z1, z2, z3] [y0, y1, y2, y3] ∧ Adr [z0, z1, z2, z3] ∧ Adr [y0, y1, y2, y3] := by
  have h' := h
  unfold keyOf at h
  rw [Try.underlying106] at h
  simp only [Option.ite_none_right_eq_some, Bool.and_eq_true] at h
  obtain ⟨⟨_, hf⟩, hk⟩ := h
  cases key <;> simp [Value.formed, Try.underlying106] at hf
  rename_i cs
  rw [cellsBallot] at hf
  obtain ⟨l⟩ := cs
  have hl : l.length = 8 := by simpa using hf
  match l, hl with
  | [c0, c1, c2, c3, c4, c5, c6, c7], _ =>
    simp only [Value.cells, typesSize, Option.map_eq_some_iff] at hk
    obtain ⟨ls, hk, _⟩ := hk
    have hk2 : Try.prog.keyLits ((138 - 2) + 3) 106 [c0, c1, c2, c3, c4, c5, c6, c7] = some ls := hk
    obtain ⟨⟨_, a0⟩, ⟨_, a1⟩⟩ := ballot_inv hk2
    obtain ⟨z0, z1, z2, z3, ⟨rfl, r0⟩, ⟨rfl, r1⟩, ⟨rfl, r2⟩, ⟨rfl, r3⟩⟩ := addr_inv a0
    obtain ⟨y0, y1, y2, y3, ⟨rfl, t0⟩, ⟨rfl, t1⟩, ⟨rfl, t2⟩, ⟨rfl, t3⟩⟩ := addr_inv a1
    have e := keyOf_ballot r0 r1 r2 r3 t0 t1 t2 t3
    refine ⟨z0, z1, z2, z3, y0, y1, y2, y3, rfl, Option.some.inj (h'.symm.trans e), ⟨rfl, ?_⟩, ⟨rfl, ?_⟩⟩
    · intro x hx
      simp at hx
      rcases hx with rfl | rfl | rfl | rfl <;> assumption
    · intro x hx
      simp at hx
      rcases hx with rfl | rfl | rfl | rfl <;> assumption

/-- How many votes are on one. -/
def tlOf (t : List Int) (ks : List (List Int × List Int)) : Nat := (ks.filter (fun q => decide (q.2 = t))).length
/-- Of these, those that are no longer to come. -/
def tlCnt (t : List Int) (ks : List (List Int × List Int)) (left : Lit → Bool) : Nat := (ks.filter (fun q => decide (q.2 = t) && !left (klOf q.1 q.2))).length

theorem tlCnt_start {t : List Int} {ks : List (List Int × List Int)} {left : Lit → Bool} (h : ∀ q ∈ ks, left (klOf q.1 q.2) = true) : tlCnt t ks left = 0 := by
  unfold tlCnt
  rw [List.length_eq_zero_iff, List.filter_eq_nil_iff]
  intro q hq
  simp [h q hq]

theorem tlCnt_end {t : List Int} {ks : List (List Int × List Int)} {left : Lit → Bool} (h : ∀ kl, left kl = false) : tlCnt t ks left = tlOf t ks := by
  unfold tlCnt tlOf
  congr 1
  apply List.filter_congr
  intro q _
  simp [h]

theorem tlCnt_step (t a c : List Int) (left : Lit → Bool) (hl : left (klOf a c) = true) (hk : ∀ x : Lit, x.sameKey (klOf a c) = true ↔ x = klOf a c) (ha : Adr a) (hc : Adr c) : ∀ ks : List (List Int × List Int), ks.Nodup → (∀ q ∈ ks, Adr q.1 ∧ Adr q.2) →
    tlCnt t ks (fun z => left z && !z.sameKey (klOf a c)) = tlCnt t ks left + (if (a, c) ∈ ks ∧ c = t then 1 else 0)
  | [], _, _ => by simp [tlCnt]
  | q :: r, hn, hq => by
    have ih := tlCnt_step t a c left hl hk ha hc r (List.nodup_cons.1 hn).2 (fun x hx => hq x (by simp [hx]))
    have hn1 := (List.nodup_cons.1 hn).1
    unfold tlCnt at ih ⊢
    rw [List.filter_cons, List.filter_cons]
    by_cases e : q = (a, c)
    · subst e
      have hs : (klOf a c).sameKey (klOf a c) = true := (hk _).2 rfl
      have e1 : (decide ((a, c).2 = t) && !((fun z => left z && !z.sameKey (klOf a c)) (klOf (a, c).1 (a, c).2))) = decide (c = t) := by simp [hs]
      have e2 : (decide ((a, c).2 = t) && !left (klOf (a, c).1 (a, c).2)) = false := by simp [hl]
      rw [e1, e2]
      by_cases et : c = t
      · rw [decide_eq_true et, if_pos rfl, if_neg (by simp), if_pos ⟨by simp, et⟩, List.length_cons, ih, if_neg (fun h => hn1 h.1)]
      · rw [decide_eq_false et, if_neg (by simp), if_neg (by simp), if_neg (fun h => et h.2), ih, if_neg (fun h => et h.2)]
    · have hne : (klOf q.1 q.2).sameKey (klOf a c) = false := by
        rw [Bool.eq_false_iff]
        intro h
        have h1 := (hk _).1 h
        obtain ⟨e1, e2⟩ := klOf_inj (by rw [(hq q (by simp)).1.1, ha.1]) (hq q (by simp)).1.2 (hq q (by simp)).2.2 ha.2 hc.2 h1
        exact e (by rw [← e1, ← e2])
      have hm : ((a, c) ∈ q :: r) ↔ (a, c) ∈ r := by
        rw [List.mem_cons]
        exact ⟨fun h => h.elim (fun h => absurd h.symm e) id, .inr⟩
      simp only [hne, Bool.not_false, Bool.and_true, hm] at ih ⊢
      split
      · simp only [List.length_cons]
        omega
      · exact ih

end Go.Proofs.Ytalkhlimkanlcaa

/- What is proved here: what the program's pollOf and tally answer. -/
namespace Go.Proofs.Ytalkhlimkanlcaa
open Go.RowKit
set_option linter.unusedVariables false
set_option maxRecDepth 100000

set_option maxHeartbeats 4000000 in
theorem pollOf_any (vS : Sl) (vs : List Vt) (w : World) (o : RowOk vtK w vS vs) (hl : vs.length ≤ 30) (h4 : ∀ v ∈ vs, v.1.length = 4 ∧ v.2.1.length = 4) :
    Calls Try.prog 55 #[.slice vS.a vS.n vS.c] w fun e w' => e = .returned (.map (some w.heap.size)) ∧ PollOk w' w.heap.size vs.length (vtKeys vs) ∧ Below w.heap.size w w' := by
  obtain ⟨a, len, cap⟩ := vS
  have hil : len = vs.length := o.len
  have HR := hide (fun hp => RowOk.pos o hp)
  have HL := hide hil
  have hln : len ≤ 30 := by omega
  have H4 := hide h4
  have hmm := @run_makeMap Try.prog
  clear o hil hl h4
  go_enter Try.func55, Try.ntmps55
  go_wp2_with fail
  go_loopw [9] (fun i wr => ∃ k : Nat, k ≤ len ∧ i = .int .i64 k ∧ PollOk wr w.heap.size k (vtKeys (vs.take k)) ∧ Below w.heap.size w wr) (fun i _ => len - (intOf i).toNat)
  case atStart => exact ⟨0, Nat.zero_le _, rfl, by simpa [vtKeys] using PollOk.made w, (Below.refl _ _).alloc (Nat.le_refl _) _⟩
  case round =>
    obtain ⟨k, hk, rfl, hpoll, hbr⟩ := hrel
    by_cases hlt : k < len
    · obtain ⟨b, off, ea, hb, hc⟩ := (unhide HR) (by show 0 < len; omega)
      subst ea
      obtain ⟨v, hv⟩ : ∃ v, vs[k]? = some v := ⟨_, List.getElem?_eq_getElem (by rw [← unhide HL]; exact hlt)⟩
      obtain ⟨⟨s, t, ⟨⟩⟩, c, oo⟩ := hc k v hv
      have hsn := vtKeys_snoc vs k v hv
      have h44 := (unhide H4) v (List.mem_of_getElem? hv)
      obtain ⟨x, y, bb⟩ := v
      have c0 := (hbr.cell (p := ⟨b, off + k * vtK.m + 0, none⟩) hb).trans (c 0 _ rfl)
      have c1 := (hbr.cell (p := ⟨b, off + k * vtK.m + 1, none⟩) hb).trans (c 1 _ rfl)
      have c2 := (hbr.cell (p := ⟨b, off + k * vtK.m + 2, none⟩) hb).trans (c 2 _ rfl)
      simp only [Nat.add_zero, show vtK.m = 3 from rfl] at c0 c1 c2
      have ox := bytesK.below oo.1 hbr (Nat.le_refl _)
      have oy := bytesK.below oo.2.1 hbr (Nat.le_refl _)
      have HU := hide (fun (W : World) (hb : Below wr.heap.size wr W) => put_any w.heap.size k s t x y bb k (vtKeys (vs.take k)) W (bytesK.below ox hb (Nat.le_refl _)) (bytesK.below oy hb (Nat.le_refl _)) h44.1 h44.2 (hpoll.below hb (Nat.le_refl _)) (by unfold maxLen; omega))
      have HSN := hide hsn
      have HB := hide hbr
      have i1 : (0 : Int) ≤ (k : Int) := by omega
      have i2 : (k : Int) < (len : Int) := by omega
      clear hc c oo ox oy hsn hpoll hbr hv h44
      go_wp2_with fail
      have ba := below_alloc wr (.cells #[.slice s.a s.n s.c, .slice t.a t.n t.c, .bool bb] 89)
      refine ((unhide HU) _ ba).mono ?_
      rintro e w2 ⟨rfl, p2, g2⟩
      have B2 := hide (((unhide HB).trans (ba.mono (unhide HB).size)).grown g2 ((unhide HB).trans (ba.mono (unhide HB).size)).size (fun q e => by cases e; exact Nat.le_refl _))
      have P2 := hide p2
      clear p2 g2 ba
      go_wp2_with fail
      go_roundw
      case rel => exact ⟨k + 1, by omega, by go_num, by rw [unhide HSN]; exact unhide P2, unhide B2⟩
      case measure => simp [intOf]; omega
    · obtain rfl : k = len := by omega
      rw [List.take_of_length_le (by rw [← unhide HL]; exact Nat.le_refl _)] at hpoll
      have HP := hide hpoll
      have HB := hide hbr
      clear hpoll hbr
      go_wp2_with fail
      go_ret
      exact ⟨rfl, by rw [← unhide HL]; exact unhide HP, unhide HB⟩

theorem adr_range {a b c d : Int} (h : Adr [a, b, c, d]) : (0 ≤ a ∧ a ≤ 255) ∧ (0 ≤ b ∧ b ≤ 255) ∧ (0 ≤ c ∧ c ≤ 255) ∧ (0 ≤ d ∧ d ≤ 255) := ⟨h.2 a (by simp), h.2 b (by simp), h.2 c (by simp), h.2 d (by simp)⟩

/-- Two addresses are the same just where their bytes are. -/
theorem eqAddr {x0 x1 x2 x3 y0 y1 y2 y3 : Int} (hx : Adr [x0, x1, x2, x3]) (hy : Adr [y0, y1, y2, y3]) (w : World) :
    (Op.equalIn 10000 78 (.agg #[.int .u8 x0, .int .u8 x1, .int .u8 x2, .int .u8 x3]) (.agg #[.int .u8 y0, .int .u8 y1, .int .u8 y2, .int .u8 y3])).run Try.prog w = .ok (decide ([x0, x1, x2, x3] = [y0, y1, y2, y3])) w := by
  obtain ⟨a0, a1, a2, a3⟩ := adr_range hx
  obtain ⟨b0, b1, b2, b3⟩ := adr_range hy
  have hk : Try.prog.keyTypeAt 3 78 = true := by kernel_rfl
  have fm : ∀ c0 c1 c2 c3 : Value, (Value.agg #[c0, c1, c2, c3]).formed Try.prog 78 = true := fun c0 c1 c2 c3 => by simp [Value.formed, Try.underlying78, cellsAddr]
  obtain ⟨r, hr, hi⟩ := run_equalIn_deep 9997 3 78 hk w 2 2 _ _ _ _ (fm _ _ _ _) (fm _ _ _ _) (keyLits_addr 0 a0 a1 a2 a3) (keyLits_addr 0 b0 b1 b2 b3)
  have e : r = decide ([x0, x1, x2, x3] = [y0, y1, y2, y3]) := by
    rw [Bool.eq_iff_iff, hi]
    simp
  rw [← e]
  exact hr

/-- A key's eight bytes. -/
structure Key8 where
  (s0 s1 s2 s3 t0 t1 t2 t3 : Int)
/-- An element's parts. -/
structure Std2 where
  (n : Int)
  (b : Bool)
def Key8.val (x : Key8) : Value := .agg #[.int .u8 x.s0, .int .u8 x.s1, .int .u8 x.s2, .int .u8 x.s3, .int .u8 x.t0, .int .u8 x.t1, .int .u8 x.t2, .int .u8 x.t3]
def Std2.val (x : Std2) : Value := .agg #[.int .i64 x.n, .bool x.b]

set_option maxHeartbeats 4000000 in
theorem tally_any (g k : Nat) (y0 y1 y2 y3 : Int) (ks : List (List Int × List Int)) (w : World) (hp : PollOk w g k ks) (hn : ks.Nodup) (hq : ∀ q ∈ ks, Adr q.1 ∧ Adr q.2) (ht : Adr [y0, y1, y2, y3]) (hk : ks.length ≤ 30) :
    Calls Try.prog 56 #[.map (some g), .agg #[.int .u8 y0, .int .u8 y1, .int .u8 y2, .int .u8 y3]] w fun e w' => e = .returned (.int .i64 (tlOf [y0, y1, y2, y3] ks : Nat)) ∧ Below w.heap.size w w' := by
  obtain ⟨D, hown, hhas⟩ := hp
  have ka := SBlk.new w #[.int .u8 y0, .int .u8 y1, .int .u8 y2, .int .u8 y3] 78
  have ba := below_alloc w (.cells #[.int .u8 y0, .int .u8 y1, .int .u8 y2, .int .u8 y3] 78)
  have hgw : g < w.heap.size := hown.lt
  replace hown := hown.alloc (.cells #[.int .u8 y0, .int .u8 y1, .int .u8 y2, .int .u8 y3] 78)
  obtain ⟨W0, e0⟩ : ∃ W, w.alloc (.cells #[.int .u8 y0, .int .u8 y1, .int .u8 y2, .int .u8 y3] 78) = W := ⟨_, rfl⟩
  rw [e0] at ka ba hown
  go_enter Try.func56, Try.ntmps56
  go_wp2_with (first | (rw [e0]) | (at_range; refine wpList_range_own _ rfl _ 74 rfl 106 116 ballotLaw Try.underlying74 standR g k D rfl hown ?_; intro w0 hrg0 hg0 hs0))
  have hw0 : Below W0.heap.size W0 w0 := (Below.refl _ _).grown hg0 (Nat.le_refl _) (fun q e => by cases e)
  have hz := SBlk.lt ka
  have BA := hide ba
  have KA := hide ka
  have HQ := hide hq
  have HN := hide hn
  have HH := hide hhas
  have HO := hide hown
  have HG := hide (And.intro hg0 hs0)
  clear ba ka hq hn hhas hown hg0 hs0
  go_loopw [5] (fun c wr => ∃ left cnt, wr.ranges Try.prog 106 standR g W0.heap.size k D left cnt ∧ c = .int .i64 (tlCnt [y0, y1, y2, y3] ks left : Nat) ∧ Below W0.heap.size W0 wr) (fun _ wr => wr.rangeLeft g W0.heap.size)
  case atStart => exact ⟨_, _, hrg0, by rw [tlCnt_start (fun q hq => by rw [(unhide HH) q.1 q.2 ((unhide HQ) q hq).1 ((unhide HQ) q hq).2]; simpa using hq)]; rfl, hw0⟩
  case round =>
    obtain ⟨left, cnt, hrg, rfl, hbr⟩ := hrel
    clear hrg0 hw0
    go_wp2_with (first
      | (at_next; refine wpList_next_ranges (α := Key8) (β := Std2) _ rfl _ rfl 106 ballotLaw standR Key8.val Std2.val (fun key kl h => by obtain ⟨z0, z1, z2, z3, x0, x1, x2, x3, rfl, _⟩ := key_inv h; exact ⟨⟨z0, z1, z2, z3, x0, x1, x2, x3⟩, rfl⟩) (fun v y h => by obtain ⟨n, b, rfl⟩ := standR_inv h; exact ⟨⟨n, b⟩, rfl⟩) g W0.heap.size k D left cnt rfl hrg ?_ ?_)
      | fail)
    · intro _ hl0
      go_wp2_with fail
      go_ret
      exact ⟨by show Ending.returned (Value.int .i64 _) = _; rw [tlCnt_end hl0], (unhide BA).trans (hbr.mono (Nat.le_of_lt hz))⟩
    · intro x c kl ya yb w1 cnt1 hkey hlx hv hat hrg1 hlt hg1 hs1 hen
      obtain ⟨z0, z1, z2, z3, x0, x1, x2, x3⟩ := x
      obtain ⟨pl, bb⟩ := c
      simp only [Key8.val, Std2.val] at hkey hlx hv hat hrg1 hlt hg1 hs1 hen ⊢
      have hb1 : Below W0.heap.size W0 w1 := hbr.grown hg1 hbr.size (fun q e => by cases e; exact Nat.le_refl _)
      have ka1 := (unhide KA).below hb1 hz
      have k0 := (ka1.next (.cells #[.int .u8 z0, .int .u8 z1, .int .u8 z2, .int .u8 z3, .int .u8 x0, .int .u8 x1, .int .u8 x2, .int .u8 x3] 106)).cell 0
      have k1 := (ka1.next (.cells #[.int .u8 z0, .int .u8 z1, .int .u8 z2, .int .u8 z3, .int .u8 x0, .int .u8 x1, .int .u8 x2, .int .u8 x3] 106)).cell 1
      have k2 := (ka1.next (.cells #[.int .u8 z0, .int .u8 z1, .int .u8 z2, .int .u8 z3, .int .u8 x0, .int .u8 x1, .int .u8 x2, .int .u8 x3] 106)).cell 2
      have k3 := (ka1.next (.cells #[.int .u8 z0, .int .u8 z1, .int .u8 z2, .int .u8 z3, .int .u8 x0, .int .u8 x1, .int .u8 x2, .int .u8 x3] 106)).cell 3
      simp only [List.getElem?_cons_zero, List.getElem?_cons_succ] at k0 k1 k2 k3
      have hlt1 := ka1.lt
      obtain ⟨_, _, _, _, _, _, _, _, ek, el, za, xa⟩ := key_inv hkey
      simp only [Value.agg.injEq, Array.mk.injEq, List.cons.injEq, Value.int.injEq, true_and, and_true] at ek
      obtain ⟨rfl, rfl, rfl, rfl, rfl, rfl, rfl, rfl⟩ := ek
      subst el
      have heq := eqAddr xa ht (w1.alloc (.cells #[.int .u8 z0, .int .u8 z1, .int .u8 z2, .int .u8 z3, .int .u8 x0, .int .u8 x1, .int .u8 x2, .int .u8 x3] 106))
      have hin : ([z0, z1, z2, z3], [x0, x1, x2, x3]) ∈ ks := by
        have h1 := Maps.has_true_of_atKey hat
        rw [(unhide HH) _ _ za xa] at h1
        simpa using h1
      have hst := tlCnt_step [y0, y1, y2, y3] [z0, z1, z2, z3] [x0, x1, x2, x3] left hlx (fun x => ⟨fun h => Classical.byContradiction (fun n => by rw [Maps.sameKey_ne n] at h; exact Bool.noConfusion h), fun h => by rw [h]; exact WideAt.sameKey_self (ballotLaw.key hkey)⟩) za xa ks (unhide HN) (unhide HQ)
      have hqb : tlCnt [y0, y1, y2, y3] ks left ≤ 30 := Nat.le_trans (List.length_filter_le _ _) hk
      have HR1 := hide (hrg1.alloc (.cells #[.int .u8 z0, .int .u8 z1, .int .u8 z2, .int .u8 z3, .int .u8 x0, .int .u8 x1, .int .u8 x2, .int .u8 x3] 106))
      have HB1 := hide (hb1.alloc hb1.size (.cells #[.int .u8 z0, .int .u8 z1, .int .u8 z2, .int .u8 z3, .int .u8 x0, .int .u8 x1, .int .u8 x2, .int .u8 x3] 106))
      have HR := hide (And.intro hrg hlt)
      generalize tlCnt [y0, y1, y2, y3] ks left = q at hst hqb ⊢
      by_cases hee : [x0, x1, x2, x3] = [y0, y1, y2, y3]
      · rw [decide_eq_true hee] at heq
        rw [if_pos ⟨hin, hee⟩] at hst
        have HST := hide hst
        clear hkey hlx hat hrg1 hlt hb1 hrg hv ka1 hbr za xa hee hst hin
        go_wp2_with fail
        go_roundw
        case rel => exact ⟨_, cnt1, unhide HR1, by rw [unhide HST]; go_num, unhide HB1⟩
        case measure => rw [(unhide HR1).left_eq, (unhide HR).1.left_eq]; exact (unhide HR).2
      · rw [decide_eq_false hee] at heq
        rw [if_neg (fun h => hee h.2)] at hst
        have HST := hide hst
        clear hkey hlx hat hrg1 hlt hb1 hrg hv ka1 hbr za xa hee hst hin
        go_wp2_with fail
        go_roundw
        case rel => exact ⟨_, cnt1, unhide HR1, by rw [unhide HST]; rfl, unhide HB1⟩
        case measure => rw [(unhide HR1).left_eq, (unhide HR).1.left_eq]; exact (unhide HR).2

end Go.Proofs.Ytalkhlimkanlcaa

/- What is proved here: what the model's count of votes answers; plain facts on votes without a fault. -/
namespace Go.Proofs.Ytalkhlimkanlcaa
open Go.RowKit
set_option linter.unusedVariables false
set_option maxRecDepth 100000

theorem vtFrom_all {sg : List (List Int)} {vs : List Vt} (h : vtFrom sg vs 0 vs = 0) : ∀ k, k ≤ vs.length → vtFrom sg vs k (vs.drop k) = 0
  | 0, _ => by simpa using h
  | k + 1, hk => by
    have ih := vtFrom_all h k (by omega)
    obtain ⟨v, hv⟩ : ∃ v, vs[k]? = some v := ⟨_, List.getElem?_eq_getElem (by omega)⟩
    rw [vtFrom_step sg vs k v hv] at ih
    split at ih
    · exact ih
    · rename_i hne
      exact absurd ih hne

theorem vtOne_all {sg : List (List Int)} {vs : List Vt} (h : vtFrom sg vs 0 vs = 0) (k : Nat) (v : Vt) (hv : vs[k]? = some v) : vtOne sg (vtKeys (vs.take k)) v = 0 := by
  have hk : k < vs.length := (List.getElem?_eq_some_iff.1 hv).1
  have ih := vtFrom_all h k (by omega)
  rw [vtFrom_step sg vs k v hv] at ih
  split at ih
  · assumption
  · exact ih

theorem vtKeys_nodup {sg : List (List Int)} {vs : List Vt} (h : vtFrom sg vs 0 vs = 0) : (vtKeys vs).Nodup := by
  have hk : ∀ k, k ≤ vs.length → (vtKeys (vs.take k)).Nodup := by
    intro k
    induction k with
    | zero => intro _; simp [vtKeys]
    | succ k ih =>
      intro hk
      obtain ⟨v, hv⟩ : ∃ v, vs[k]? = some v := ⟨_, List.getElem?_eq_getElem (by omega)⟩
      rw [vtKeys_snoc vs k v hv, List.nodup_append]
      refine ⟨ih (by omega), by simp, fun a ha b hb => ?_⟩
      rintro rfl
      simp only [List.mem_singleton] at hb
      subst hb
      exact (vtOne_zero (vtOne_all h k v hv)).2.2.2.2 ha
  have := hk vs.length (Nat.le_refl _)
  rwa [List.take_length] at this

theorem vt_four {sg : List (List Int)} {vs : List Vt} (h : vtFrom sg vs 0 vs = 0) : ∀ v ∈ vs, v.1.length = 4 ∧ v.2.1.length = 4 := by
  intro v hv
  obtain ⟨k, hk⟩ := List.getElem?_of_mem hv
  have h1 := vtOne_zero (vtOne_all h k v hk)
  exact ⟨h1.1, h1.2.1⟩

theorem snFlt_vt {x : Sn} (h : snFlt x = 0) : vtFrom x.2.1 x.2.2.2 0 x.2.2.2 = 0 ∧ x.2.2.2.length ≤ 30 := by
  unfold snFlt at h
  split at h
  · omega
  · split at h
    · rename_i h1
      exact absurd h h1
    · split at h
      · omega
      · rename_i h2
        split at h
        · rename_i h3
          exact absurd h h3
        · exact ⟨h, by omega⟩

theorem vt_adr {w : World} {s : Sl} {vs : List Vt} (o : RowOk vtK w s vs) (h : ∀ v ∈ vs, v.1.length = 4 ∧ v.2.1.length = 4) : ∀ q ∈ vtKeys vs, Adr q.1 ∧ Adr q.2 := by
  intro q hq
  unfold vtKeys at hq
  obtain ⟨v, hv, rfl⟩ := List.mem_map.1 hq
  have hlen : s.n = vs.length := o.len
  obtain ⟨b, off, ea, hb, hc⟩ := RowOk.pos o (by have := List.length_pos_of_mem hv; omega)
  obtain ⟨k, hk⟩ := List.getElem?_of_mem hv
  obtain ⟨⟨s0, s1, ⟨⟩⟩, c, oo⟩ := hc k v hk
  exact ⟨adr_of oo.1 (h v hv).1, adr_of oo.2.1 (h v hv).2⟩

theorem tlOf_snoc (t : List Int) (vs : List Vt) (k : Nat) (v : Vt) (h : vs[k]? = some v) : tlOf t (vtKeys (vs.take (k + 1))) = tlOf t (vtKeys (vs.take k)) + (if v.2.1 = t then 1 else 0) := by
  rw [vtKeys_snoc vs k v h]
  unfold tlOf
  rw [List.filter_append, List.length_append]
  by_cases e : v.2.1 = t <;> simp [e]

theorem tlOf_le (t : List Int) (vs : List Vt) : tlOf t (vtKeys vs) ≤ vs.length := by
  unfold tlOf
  exact Nat.le_trans (List.length_filter_le _ _) (by simp [vtKeys])

/-- The code of TallyOf, and what it tells. -/
def tlCode (x : Sn) (z : List Int) : Int := if snFlt x ≠ 0 then snFlt x else if (z.length == 4) = false then 1 else 0
def tlVal (x : Sn) (z : List Int) : Int := if snFlt x ≠ 0 then 0 else if (z.length == 4) = false then 0 else (tlOf z (vtKeys x.2.2.2) : Nat)

set_option maxHeartbeats 2000000 in
theorem l7Tally_any (g : Nat) (e : SnS) (x : Sn) (T : TypeId) (t : Sl) (z : List Int) (w : World) (sb : SBlk w g (snvals e x).toList T) (o : RowOk vtK w e.2.2.2 x.2.2.2) (oz : BOk w t z) (hl : x.2.2.2.length ≤ 1048576) :
    Calls Try.prog 53 #[.pointer (some ⟨g, 0, none⟩), .slice t.a t.n t.c] w fun r w' => r = .returned (.int .i64 (tlOf z (vtKeys x.2.2.2) : Nat)) ∧ w' = w := by
  obtain ⟨ee, e1, e2, a, len, cap⟩ := e
  obtain ⟨x0, x1, x2, vs⟩ := x
  have hil : len = vs.length := o.len
  have HR := hide (fun hp => RowOk.pos o hp)
  have HL := hide hil
  have hln : len ≤ 1048576 := by simp only at hl; omega
  have HZ := hide oz
  have u3 := sb.cell 3
  simp only [snvals, List.getElem?_cons_zero, List.getElem?_cons_succ] at u3
  have HU := hide u3
  simp only at HR
  clear o hil hl oz sb
  go_enter Try.func53, Try.ntmps53
  go_wp2_with fail
  go_loop [5, 6] (fun c i => ∃ k : Nat, k ≤ len ∧ i = .int .i64 k ∧ c = .int .i64 (tlOf z (vtKeys (vs.take k)) : Nat)) (fun _ i => len - (intOf i).toNat)
  case atStart => exact ⟨0, Nat.zero_le _, rfl, by simp [vtKeys, tlOf]⟩
  case round =>
    obtain ⟨k, hk, rfl, rfl⟩ := hrel
    by_cases hlt : k < len
    · obtain ⟨b, off, ea, hb, hc⟩ := (unhide HR) (by show 0 < len; omega)
      subst ea
      obtain ⟨v, hv⟩ : ∃ v, vs[k]? = some v := ⟨_, List.getElem?_eq_getElem (by rw [← unhide HL]; exact hlt)⟩
      obtain ⟨⟨s0, s1, ⟨⟩⟩, c, oo⟩ := hc k v hv
      have hst := tlOf_snoc z vs k v hv
      have hqb : tlOf z (vtKeys (vs.take k)) ≤ 1048576 := Nat.le_trans (tlOf_le _ _) (by rw [List.length_take]; omega)
      obtain ⟨v0, v1, vb⟩ := v
      have c1 := c 1 _ rfl
      simp only [show vtK.m = 3 from rfl] at c1
      have HQ1 := hide (l1Same_kd s1 t v1 z w oo.2.1 (unhide HZ))
      have i1 : (0 : Int) ≤ (k : Int) := by omega
      have i2 : (k : Int) < (len : Int) := by omega
      generalize tlOf z (vtKeys (vs.take k)) = q at hst hqb ⊢
      have HST := hide hst
      clear hc c oo hst hv
      go_wp2_with fail
      refine (unhide HQ1).mono ?_
      rintro e w2 ⟨rfl, rfl⟩
      by_cases e1 : v1 = z
      · rw [decide_eq_true e1]
        go_wp2_with fail
        go_round
        case rel => exact ⟨k + 1, by omega, by go_num, by rw [unhide HST, if_pos e1]; go_num⟩
        case measure => simp [intOf]; omega
      · rw [decide_eq_false e1]
        go_wp2_with fail
        go_round
        case rel => exact ⟨k + 1, by omega, by go_num, by rw [unhide HST, if_neg e1]; rfl⟩
        case measure => simp [intOf]; omega
    · obtain rfl : k = len := by omega
      rw [List.take_of_length_le (by rw [← unhide HL]; exact Nat.le_refl _)]
      go_wp2_with fail
      go_ret
      exact ⟨rfl, rfl⟩

end Go.Proofs.Ytalkhlimkanlcaa

/- What is proved here: what TallyOf answers, in the program and in the model. -/
namespace Go.Proofs.Ytalkhlimkanlcaa
open Go.RowKit
set_option linter.unusedVariables false
set_option maxRecDepth 100000

set_option maxHeartbeats 4000000 in
theorem specTally_any (e : SnS) (x : Sn) (s : Sl) (z : List Int) (w : World) (o : SNK.Ok w e x) (q : BOk w s z) (m : SnSm x) (mz : z.length ≤ 1048576) :
    Calls Try.prog 23 #[.agg (snvals e x), .slice s.a s.n s.c] w fun r w' => r = .returned (.agg #[.int .i64 (tlCode x z), .int .i64 (tlVal x z)]) ∧ Below w.heap.size w w' := by
  obtain ⟨kb, kr, bb⟩ := two_sblk w (snvals e x) #[.int .i64 0, .int .i64 0] 32 47
  obtain ⟨W0, e0⟩ : ∃ W, (w.alloc (.cells (snvals e x) 32)).alloc (.cells #[.int .i64 0, .int .i64 0] 47) = W := ⟨_, rfl⟩
  rw [e0] at kb kr bb
  have HF := hide (l7Fault_any w.heap.size e x 32 W0 kb (SNK.below o bb (Nat.le_refl _)) m)
  have HN := hide (fun W => l7Addr_any s.a s.n s.c W)
  have HA := hide (fun (W : World) (hb : Below W0.heap.size W0 W) (h : snFlt x = 0) => l7Tally_any w.heap.size e x 32 s z W (kb.below hb kb.lt) (RowOk.below o.2.2.2 (bb.trans (hb.mono bb.size)) (Nat.le_refl _)) (bytesK.below q (bb.trans (hb.mono bb.size)) (Nat.le_refl _)) (by have := (snFlt_vt h).2; omega))
  have hn4 : (((s.n : Nat) : Int) == 4) = (z.length == 4) := by rw [q.row.1, Bool.eq_iff_iff, beq_iff_eq, beq_iff_eq]; omega
  have HBB := hide bb
  have c0 := kb.cell 0
  have c1 := kb.cell 1
  have c2 := kb.cell 2
  have c3 := kb.cell 3
  have r0 := kr.cell 0
  have r1 := kr.cell 1
  have f0 := kr.free 0
  have f1 := kr.free 1
  simp only [snvals, List.getElem?_cons_zero, List.getElem?_cons_succ] at c0 c1 c2 c3 r0 r1
  have HC : Hid (tlCode x z = if snFlt x ≠ 0 then snFlt x else if (z.length == 4) = false then 1 else 0) := rfl
  have HV : Hid (tlVal x z = if snFlt x ≠ 0 then 0 else if (z.length == 4) = false then 0 else ((tlOf z (vtKeys x.2.2.2) : Nat) : Int)) := rfl
  rw [hn4] at HN
  clear o q m mz kb kr bb hn4
  generalize tlCode x z = tc at HC ⊢
  generalize tlVal x z = tv at HV ⊢
  generalize snFlt x = fl at HF HC HV HA
  generalize (z.length == 4) = wn at HN HC HV
  generalize tlOf z (vtKeys x.2.2.2) = res at HA HV
  unfold snvals at e0 ⊢
  go_enter Try.func23, Try.ntmps23
  go_wp2_with (rw [e0])
  try rw [e0]
  clear e0
  refine (unhide HF).mono ?_
  rintro r w1 ⟨rfl, k1, rfl⟩
  by_cases n0 : fl = 0
  case neg =>
    have h0 : (fl != 0) = true := by simp [n0]
    have HRR : Hid (tc = fl ∧ tv = 0) := ⟨by rw [unhide HC]; simp [n0], by rw [unhide HV]; simp [n0]⟩
    have HB1 := hide (below_drewN (unhide HBB) k1)
    clear n0
    go_wp2_with fail
    refine bodyPost_ret (v := .agg #[.int .i64 (fl), .int .i64 (0)]) (by simp [results, Try.results23, go_sem, r0, r1]) rfl ⟨?_, ?_⟩
    · rw [(unhide HRR).1, (unhide HRR).2]
    · exact ((unhide HB1).setCell (p := ⟨w.heap.size + 1, 0, none⟩) (by show w.heap.size ≤ w.heap.size + 1; omega) _).setCell (p := ⟨w.heap.size + 1, 1, none⟩) (by show w.heap.size ≤ w.heap.size + 1; omega) _
  subst n0
  have h0 : ((0 : Int) != 0) = false := by simp
  go_wp2_with fail
  refine ((unhide HN) _).mono ?_
  rintro r w2 ⟨rfl, rfl⟩
  cases wn
  · have HRR : Hid (tc = 1 ∧ tv = 0) := ⟨by rw [unhide HC]; simp, by rw [unhide HV]; simp⟩
    have HB1 := hide (below_drewN (unhide HBB) k1)
    go_wp2_with fail
    refine bodyPost_ret (v := .agg #[.int .i64 (1), .int .i64 (0)]) (by simp [results, Try.results23, go_sem, r0, r1]) rfl ⟨?_, ?_⟩
    · rw [(unhide HRR).1, (unhide HRR).2]
    · exact ((unhide HB1).setCell (p := ⟨w.heap.size + 1, 0, none⟩) (by show w.heap.size ≤ w.heap.size + 1; omega) _).setCell (p := ⟨w.heap.size + 1, 1, none⟩) (by show w.heap.size ≤ w.heap.size + 1; omega) _
  go_wp2_with fail
  refine ((unhide HA) _ (below_drewN (Below.refl _ _) _) (by simp)).mono ?_
  rintro r w4 ⟨rfl, rfl⟩
  have HRR : Hid (tc = 0 ∧ tv = (res : Int)) := ⟨by rw [unhide HC]; simp, by rw [unhide HV]; simp⟩
  have HB1 := hide (below_drewN (unhide HBB) k1)
  go_wp2_with fail
  refine bodyPost_ret (v := .agg #[.int .i64 (0), .int .i64 (res : Nat)]) (by simp [results, Try.results23, go_sem, r0, r1]) rfl ⟨?_, ?_⟩
  · rw [(unhide HRR).1, (unhide HRR).2]
  · exact ((unhide HB1).setCell (p := ⟨w.heap.size + 1, 0, none⟩) (by show w.heap.size ≤ w.heap.size + 1; omega) _).setCell (p := ⟨w.heap.size + 1, 1, none⟩) (by show w.heap.size ≤ w.heap.size + 1; omega) _

set_option maxHeartbeats 4000000 in
theorem implTally_any (e : SnS) (x : Sn) (s : Sl) (z : List Int) (w : World) (o : SNK.Ok w e x) (q : BOk w s z) (m : SnSm x) (mz : z.length ≤ 1048576) :
    Calls Try.prog 25 #[.agg (snvals e x), .slice s.a s.n s.c] w fun r w' => r = .returned (.agg #[.int .i64 (tlCode x z), .int .i64 (tlVal x z)]) ∧ Below w.heap.size w w' := by
  have HF := hide (fun (W : World) (hb : Below w.heap.size w W) => implSnapFault_any e x W (SNK.below o hb (Nat.le_refl _)) m)
  have HN := hide (fun W => isAddr_any s.a s.n s.c W)
  have HP := hide (fun (W : World) (hb : Below w.heap.size w W) (h : snFlt x = 0) => pollOf_any e.2.2.2 x.2.2.2 W (RowOk.below o.2.2.2 hb (Nat.le_refl _)) (snFlt_vt h).2 (vt_four (snFlt_vt h).1))
  have HD := hide (fun (W : World) (hb : Below w.heap.size w W) (z0 z1 z2 z3 : Int) (h : z = [z0, z1, z2, z3]) => addressOf_any s z0 z1 z2 z3 W (h ▸ bytesK.below q hb (Nat.le_refl _)))
  have HT := hide (fun (W : World) (g : Nat) (hp : PollOk W g x.2.2.2.length (vtKeys x.2.2.2)) (h : snFlt x = 0) (z0 z1 z2 z3 : Int) (h4 : z = [z0, z1, z2, z3]) => tally_any g x.2.2.2.length z0 z1 z2 z3 (vtKeys x.2.2.2) W hp (vtKeys_nodup (snFlt_vt h).1) (vt_adr o.2.2.2 (vt_four (snFlt_vt h).1)) (h4 ▸ adr_of q (by rw [h4]; rfl)) (by have := (snFlt_vt h).2; simpa [vtKeys] using this))
  have HM := hide (fun (h : snFlt x = 0) => (snFlt_vt h).2)
  have HZ4 := hide (fun (h : (z.length == 4) = true) => adr_four (adr_of q (by simpa using h)))
  have hn4 : (((s.n : Nat) : Int) == 4) = (z.length == 4) := by rw [q.row.1, Bool.eq_iff_iff, beq_iff_eq, beq_iff_eq]; omega
  rw [hn4] at HN
  obtain ⟨kb, kr, bb⟩ := two_sblk w (snvals e x) #[.int .i64 0, .int .i64 0] 32 47
  obtain ⟨W0, e0⟩ : ∃ W, (w.alloc (.cells (snvals e x) 32)).alloc (.cells #[.int .i64 0, .int .i64 0] 47) = W := ⟨_, rfl⟩
  rw [e0] at kb kr bb
  have HK := hide (fun (W : World) (hb : Below W0.heap.size W0 W) => And.intro (kb.below hb kb.lt) (kr.below hb kr.lt))
  have HBB := hide bb
  have c0 := kb.cell 0
  have c1 := kb.cell 1
  have c2 := kb.cell 2
  have c3 := kb.cell 3
  have r0 := kr.cell 0
  have r1 := kr.cell 1
  have f0 := kr.free 0
  have f1 := kr.free 1
  simp only [snvals, List.getElem?_cons_zero, List.getElem?_cons_succ] at c0 c1 c2 c3 r0 r1
  have HC : Hid (tlCode x z = if snFlt x ≠ 0 then snFlt x else if (z.length == 4) = false then 1 else 0) := rfl
  have HV : Hid (tlVal x z = if snFlt x ≠ 0 then 0 else if (z.length == 4) = false then 0 else ((tlOf z (vtKeys x.2.2.2) : Nat) : Int)) := rfl
  clear o q m mz kb kr bb hn4
  generalize tlCode x z = tc at HC ⊢
  generalize tlVal x z = tv at HV ⊢
  generalize snFlt x = fl at HF HP HT HC HV HM
  generalize (z.length == 4) = wn at HN HC HV HZ4
  unfold snvals at e0 HF ⊢
  go_enter Try.func25, Try.ntmps25
  go_wp2_with (rw [e0])
  try rw [e0]
  clear e0
  refine ((unhide HF) _ (unhide HBB)).mono ?_
  rintro r w1 ⟨rfl, b1⟩
  have HB1 := hide ((unhide HBB).trans (b1.mono (unhide HBB).size))
  have HW1 := hide b1
  obtain ⟨kb, kr⟩ := (unhide HK) w1 b1
  have c3 := kb.cell 3
  have r0 := kr.cell 0
  have r1 := kr.cell 1
  have f0 := kr.free 0
  have f1 := kr.free 1
  simp only [snvals, List.getElem?_cons_zero, List.getElem?_cons_succ] at c3 r0 r1
  clear b1 kb kr
  by_cases n0 : fl = 0
  case neg =>
    have h0 : (fl != 0) = true := by simp [n0]
    have HRR : Hid (tc = fl ∧ tv = 0) := ⟨by rw [unhide HC]; simp [n0], by rw [unhide HV]; simp [n0]⟩
    clear n0
    go_wp2_with fail
    refine bodyPost_ret (v := .agg #[.int .i64 (fl), .int .i64 (0)]) (by simp [results, Try.results25, go_sem, r0, r1]) rfl ⟨?_, ?_⟩
    · rw [(unhide HRR).1, (unhide HRR).2]
    · exact ((unhide HB1).setCell (p := ⟨w.heap.size + 1, 0, none⟩) (by show w.heap.size ≤ w.heap.size + 1; omega) _).setCell (p := ⟨w.heap.size + 1, 1, none⟩) (by show w.heap.size ≤ w.heap.size + 1; omega) _
  subst n0
  have h0 : ((0 : Int) != 0) = false := by simp
  go_wp2_with fail
  refine ((unhide HN) _).mono ?_
  rintro r w2 ⟨rfl, rfl⟩
  cases wn
  · have HRR : Hid (tc = 1 ∧ tv = 0) := ⟨by rw [unhide HC]; simp, by rw [unhide HV]; simp⟩
    go_wp2_with fail
    refine bodyPost_ret (v := .agg #[.int .i64 (1), .int .i64 (0)]) (by simp [results, Try.results25, go_sem, r0, r1]) rfl ⟨?_, ?_⟩
    · rw [(unhide HRR).1, (unhide HRR).2]
    · exact ((unhide HB1).setCell (p := ⟨w.heap.size + 1, 0, none⟩) (by show w.heap.size ≤ w.heap.size + 1; omega) _).setCell (p := ⟨w.heap.size + 1, 1, none⟩) (by show w.heap.size ≤ w.heap.size + 1; omega) _
  obtain ⟨z0, z1, z2, z3, hz, _⟩ := (unhide HZ4) rfl
  have HRR : Hid (tc = 0 ∧ tv = ((tlOf [z0, z1, z2, z3] (vtKeys x.2.2.2) : Nat) : Int)) := ⟨by rw [unhide HC]; simp, by rw [unhide HV, ← hz]; simp⟩
  go_wp2_with fail
  refine ((unhide HP) _ (unhide HB1) (by simp)).mono ?_
  rintro r w3 ⟨rfl, p3, b3⟩
  have HB3 := hide ((unhide HB1).trans (b3.mono (unhide HB1).size))
  have HW3 := hide ((unhide HW1).trans (b3.mono (unhide HW1).size))
  have HP3 := hide p3
  clear p3 b3
  go_wp2_with fail
  refine ((unhide HD) _ (unhide HB3) z0 z1 z2 z3 hz).mono ?_
  rintro r w4 ⟨rfl, b4⟩
  have HB4 := hide ((unhide HB3).trans (b4.mono (unhide HB3).size))
  have HW4 := hide ((unhide HW3).trans (b4.mono (unhide HW3).size))
  have HP4 := hide ((unhide HP3).below b4 (Nat.le_refl _))
  clear b4
  go_wp2_with fail
  refine ((unhide HT) _ _ (unhide HP4) (by simp) z0 z1 z2 z3 hz).mono ?_
  rintro r w5 ⟨rfl, b5⟩
  have HB5 := hide ((unhide HB4).trans (b5.mono (unhide HB4).size))
  obtain ⟨_, kr⟩ := (unhide HK) w5 ((unhide HW4).trans (b5.mono (unhide HW4).size))
  have r0 := kr.cell 0
  have r1 := kr.cell 1
  have f0 := kr.free 0
  have f1 := kr.free 1
  simp only [List.getElem?_cons_zero, List.getElem?_cons_succ] at r0 r1
  have hq30 : tlOf [z0, z1, z2, z3] (vtKeys x.2.2.2) ≤ 30 := Nat.le_trans (tlOf_le _ _) ((unhide HM) (by simp))
  generalize tlOf [z0, z1, z2, z3] (vtKeys x.2.2.2) = res at HRR hq30 ⊢
  clear b5 kr
  go_wp2_with fail
  refine bodyPost_ret (v := .agg #[.int .i64 (0), .int .i64 (res : Nat)]) (by simp [results, Try.results25, go_sem, r0, r1]) rfl ⟨?_, ?_⟩
  · rw [(unhide HRR).1, (unhide HRR).2]
  · exact ((unhide HB5).setCell (p := ⟨w.heap.size + 1, 0, none⟩) (by show w.heap.size ≤ w.heap.size + 1; omega) _).setCell (p := ⟨w.heap.size + 1, 1, none⟩) (by show w.heap.size ≤ w.heap.size + 1; omega) _

end Go.Proofs.Ytalkhlimkanlcaa
