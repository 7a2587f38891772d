/- What is proved here: what the model's l8Commits and CommitsRight answer. -/
import Derived.Test.YtifhaihddimdfaaGreatDoorJ23
import Derived.Test.YtifhaihddimdfaaGreatDoorJ22
namespace Go.Proofs.YtifhaihddimdfaaGreatDoor
open Go.RowKit
set_option linter.unusedVariables false
set_option maxRecDepth 100000

theorem atFrom_mem (z : List Int) (zss : List (List Int)) (k : Nat) : decide (atFrom z k zss < 0) = !decide (z ∈ zss) := by
  induction zss generalizing k with
  | nil => simp [atFrom]
  | cons y r ih =>
    unfold atFrom
    by_cases e : y = z
    · subst e
      rw [if_pos rfl]
      simp
    · rw [if_neg e, ih]
      have e' : ¬ z = y := fun q => e q.symm
      simp [e']

set_option maxHeartbeats 8000000 in
theorem l8Commits_any (g : Nat) (s : Sl) (zss : List (List Int)) (x : HS) (h : Hd) (T : TypeId) (w : World) (sb : SBlk w g (hvals x h).toList T) (q : RowOk bytesK w s zss) (hs : sgSome zss = 0) (o : HOk w x h) (nn : HNil w x) (bc : BsCap w x.k.a x.k.n) (hf : hdFlt h = 0) :
    Calls Tryz.prog 69 #[.slice s.a s.n s.c, .pointer (some ⟨g, 0, none⟩)] w fun e w' => e = .returned (.int .i64 (crCode zss h)) ∧ Below w.heap.size w w' := by
  have hsg := sgSome_ok hs
  have hn : s.n = zss.length := q.len
  have D1 := hide (l6Committers_any g x h T w sb o nn bc hf)
  have DA : Hid (∀ (W : World), Below w.heap.size w W → ∀ (t : Sl) (y : List Int), BOk W t y → Calls Tryz.prog 104 #[.slice s.a s.n s.c, .slice t.a t.n t.c] W fun e w' => e = .returned (.int .i64 (atFrom y 0 zss)) ∧ w' = W) := fun W hb t y ht => l7At_any s t zss y W (RowOk.below q hb (Nat.le_refl _)) ht (by omega)
  have DM := hide (fun y => atFrom_mem y zss 0)
  have DQ : Hid (∀ (W : World), Calls Tryz.prog 105 #[.int .i64 (s.n : Nat)] W fun e w' => e = .returned (.int .i64 (qmVal ((zss.length : Nat) : Int))) ∧ w' = W) := fun W => by
    rw [hn]
    exact l8Quorum_any _ W (by unfold within; exact decide_eq_true (by omega))
  have HAL := hide (coAns_len h)
  have HC : Hid (crCode zss h = if coCode h ≠ 0 then coCode h else if (crAll zss (coAns h) && decide (qmVal ((zss.length : Nat) : Int) ≤ (((coAns h).length : Nat) : Int))) = true then 0 else 8) := by show _ = _; unfold crCode; rw [if_neg (by rw [hs]; simp)]
  have HST := hide (fun (yss : List (List Int)) k y e => crAll_step zss yss k y e)
  have hsn : s.n ≤ 7 := by omega
  clear o nn bc q hs sb hf hsg hn
  have HNI := hide (show crAll zss [] = true from rfl)
  generalize crCode zss h = CR at HC ⊢
  generalize coCode h = CC at D1 HC
  generalize coAns h = AA at D1 HAL HC
  generalize qmVal ((zss.length : Nat) : Int) = QV at DQ HC
  generalize crAll zss = CA at HC HST HNI
  obtain ⟨sa, sn, sc⟩ := s
  simp only at *
  go_enter Tryz.func69, Tryz.ntmps69
  go_wp2_with fail
  refine (unhide D1).mono ?_
  rintro e w2 ⟨⟨a, len, cap⟩, d, rfl, hc2, b2⟩
  have rt : RowOk bytesK w2 ⟨a, len, cap⟩ AA := hc2.nrow (by omega)
  have tn : len = AA.length := rt.len
  have HR := hide (fun hp => RowOk.pos rt hp)
  have HL := hide tn
  have hln : len ≤ 7 := by have := unhide HAL; omega
  have HB2 := hide b2
  have HC2 : Hid (CR = if CC ≠ 0 then CC else if (CA AA && decide (QV ≤ ((len : Nat) : Int))) = true then 0 else 8) := by show _ = _; rw [unhide HC, tn]
  clear D1 HC rt hc2 b2 tn HAL
  by_cases h2 : CC = 0
  case neg =>
    have h3 : (CC != 0) = true := by simp [h2]
    have HR : Hid (CR = CC) := by show _ = _; rw [unhide HC2, if_pos h2]
    clear h2
    go_wp2_with fail
    go_ret
    exact ⟨ret_int (unhide HR).symm, unhide HB2⟩
  subst h2
  have HC3 : Hid (CR = if (CA AA && decide (QV ≤ ((len : Nat) : Int))) = true then 0 else 8) := by show _ = _; rw [unhide HC2]; simp
  clear HC2
  go_wp2_with fail
  go_loop [7] (fun i => ∃ k : Nat, k ≤ len ∧ i = .int .i64 k ∧ CA AA = CA (AA.drop k)) (fun i => len - (intOf i).toNat)
  case atStart => exact ⟨0, Nat.zero_le _, rfl, by simp⟩
  case round =>
    obtain ⟨k, hk, rfl, hpre⟩ := hrel
    by_cases hlt : k < len
    · obtain ⟨b, off, ea, hb, hc⟩ := (unhide HR) (by show 0 < len; omega)
      subst ea
      obtain ⟨y, hy⟩ : ∃ v, AA[k]? = some v := ⟨_, List.getElem?_eq_getElem (by rw [← unhide HL]; exact hlt)⟩
      obtain ⟨el, c, oo⟩ := hc k y hy
      have hst := (unhide HST) AA k y hy
      have c0 := c 0 _ rfl
      simp only [Nat.add_zero, Nat.mul_one, show bytesK.m = 1 from rfl] at c0
      have HQ := hide ((unhide DA) w2 (unhide HB2) el y oo)
      have hmm := (unhide DM) y
      have HS2 := hide (And.intro hpre hst)
      have i1 : (0 : Int) ≤ (k : Int) := by omega
      have i2 : (k : Int) < (len : Int) := by omega
      clear hc c oo hst hpre hy
      generalize atFrom y 0 zss = at' at HQ hmm
      by_cases e : y ∈ zss
      · rw [decide_eq_true e] at hmm HS2
        simp only [Bool.not_true] at hmm
        go_wp2_with fail
        refine (unhide HQ).mono ?_
        rintro e w1 ⟨rfl, rfl⟩
        go_wp2_with fail
        go_round
        case rel => exact ⟨k + 1, by omega, by go_num, by rw [(unhide HS2).1, (unhide HS2).2]; rfl⟩
        case measure => simp [intOf]; omega
      · rw [decide_eq_false e] at hmm HS2
        simp only [Bool.not_false] at hmm
        have HE : Hid (CR = 8) := by show _ = _; rw [unhide HC3, (unhide HS2).1, (unhide HS2).2]; simp
        go_wp2_with fail
        refine (unhide HQ).mono ?_
        rintro e w1 ⟨rfl, rfl⟩
        go_wp2_with fail
        go_ret
        exact ⟨ret_int (unhide HE).symm, unhide HB2⟩
    · obtain rfl : k = len := by omega
      rw [List.drop_eq_nil_of_le (by rw [← unhide HL]; exact Nat.le_refl _), unhide HNI] at hpre
      have HC4 : Hid (CR = if decide (QV ≤ ((k : Nat) : Int)) = true then 0 else 8) := by show _ = _; rw [unhide HC3, hpre]; simp
      clear hpre HC3
      go_wp2_with fail
      refine ((unhide DQ) _).mono ?_
      rintro e w1 ⟨rfl, rfl⟩
      by_cases e : QV ≤ ((k : Nat) : Int)
      · have hd : decide (((k : Nat) : Int) < QV) = false := decide_eq_false (by omega)
        have HE : Hid (CR = 0) := by show _ = _; rw [unhide HC4, decide_eq_true e]; simp
        clear e
        go_wp2_with fail
        go_ret
        exact ⟨ret_int (unhide HE).symm, unhide HB2⟩
      · have hd : decide (((k : Nat) : Int) < QV) = true := decide_eq_true (by omega)
        have HE : Hid (CR = 8) := by show _ = _; rw [unhide HC4, decide_eq_false e]; simp
        clear e
        go_wp2_with fail
        go_ret
        exact ⟨ret_int (unhide HE).symm, unhide HB2⟩

set_option maxHeartbeats 8000000 in
theorem specCommitsRight_any (s : Sl) (zss : List (List Int)) (x : HS) (h : Hd) (w : World) (q : RowOk bytesK w s zss) (hl : zss.length ≤ 1048576) (o : HOk w x h) (nn : HNil w x) (bc : BsCap w x.k.a x.k.n) (m : HSm h) :
    Calls Tryz.prog 27 #[.slice s.a s.n s.c, .agg (hvals x h)] w fun e w' => e = .returned (.int .i64 (crCode zss h)) ∧ Below w.heap.size w w' := by
  have kb := SBlk.new w (hvals x h) 26
  have bb := below_alloc w (.cells (hvals x h) 26)
  obtain ⟨W1, ea⟩ : ∃ W, w.alloc (.cells (hvals x h) 26) = W := ⟨_, rfl⟩
  rw [ea] at kb bb
  have D1 := hide (l7List_any s zss W1 (RowOk.below q bb (Nat.le_refl _)) hl)
  have D2 := hide (fun (W : World) (hb : Below W1.heap.size W1 W) => l5Fault_any w.heap.size x h _ W (kb.below hb kb.lt) (o.below (bb.trans (hb.mono bb.size)) (Nat.le_refl _)) m)
  have D3 := hide (fun (W : World) (hb : Below W1.heap.size W1 W) (hs : sgSome zss = 0) (hf : hdFlt h = 0) => l8Commits_any w.heap.size s zss x h _ W (kb.below hb kb.lt) (RowOk.below q (bb.trans (hb.mono bb.size)) (Nat.le_refl _)) hs (o.below (bb.trans (hb.mono bb.size)) (Nat.le_refl _)) (nn.below (bb.trans (hb.mono bb.size)) (Nat.le_refl _)) (bc.below (bb.trans (hb.mono bb.size)) (Nat.le_refl _)) hf)
  have HC1 : Hid (sgSome zss ≠ 0 → crCode zss h = sgSome zss) := fun hs => by show _ = _; unfold crCode; rw [if_pos hs]
  have HC2 : Hid (sgSome zss = 0 → hdFlt h ≠ 0 → crCode zss h = hdFlt h) := fun hs hf => by
    have e : coCode h = hdFlt h := if_neg hf
    show _ = _
    unfold crCode
    rw [if_neg (by rw [hs]; simp), e, if_pos hf]
  have HBB := hide bb
  have EA := hide ea
  clear ea o nn bc m kb bb q hl
  generalize crCode zss h = CR at D3 HC1 HC2 ⊢
  generalize sgSome zss = SG at D1 D3 HC1 HC2
  generalize hdFlt h = FL at D2 D3 HC2
  unfold hvals at EA ⊢
  go_enter Tryz.func27, Tryz.ntmps27
  go_upto_region 1 with fail
  rw [unhide EA]
  clear EA
  go_wp2_with fail
  refine (unhide D1).mono ?_
  rintro e w1' ⟨rfl, n1, rfl⟩
  obtain ⟨w1, ew1⟩ : ∃ W, W1.drewN n1 = W := ⟨_, rfl⟩
  have b1 : Below W1.heap.size W1 w1 := by rw [← ew1]; exact below_drewN (Below.refl _ _) n1
  rw [ew1]
  have L1 := hide b1
  clear b1 D1 ew1
  by_cases h0 : SG = 0
  case neg =>
    have h1 : (SG != 0) = true := by simp [h0]
    have HR : Hid (CR = SG) := (unhide HC1) h0
    clear h0
    go_wp2_with fail
    go_ret
    exact ⟨ret_int (unhide HR).symm, (unhide HBB).trans ((unhide L1).mono (unhide HBB).size)⟩
  subst h0
  have h1 : ((0 : Int) != 0) = false := rfl
  go_wp2_with fail
  refine ((unhide D2) _ (unhide L1)).mono ?_
  rintro e w2' ⟨rfl, n2, rfl⟩
  obtain ⟨w2, ew2⟩ : ∃ W, w1.drewN n2 = W := ⟨_, rfl⟩
  have b2 : Below W1.heap.size W1 w2 := by rw [← ew2]; exact below_drewN (unhide L1) n2
  rw [ew2]
  have L2 := hide b2
  clear b2 D2 ew2 L1
  by_cases h2 : FL = 0
  case neg =>
    have h3 : (FL != 0) = true := by simp [h2]
    have HR : Hid (CR = FL) := (unhide HC2) (by trivial) h2
    clear h2
    go_wp2_with fail
    go_ret
    exact ⟨ret_int (unhide HR).symm, (unhide HBB).trans ((unhide L2).mono (unhide HBB).size)⟩
  subst h2
  have D4 := hide ((unhide D3) w2 (unhide L2) (by trivial) (by trivial))
  go_wp2_with fail
  refine (unhide D4).mono ?_
  rintro e w3 ⟨rfl, b3⟩
  go_wp2_with fail
  go_ret
  have B2 := (unhide HBB).trans ((unhide L2).mono (unhide HBB).size)
  exact ⟨rfl, B2.trans (b3.mono B2.size)⟩

end Go.Proofs.YtifhaihddimdfaaGreatDoor
