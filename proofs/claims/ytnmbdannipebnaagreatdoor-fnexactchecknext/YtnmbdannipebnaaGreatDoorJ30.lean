/- What is proved here: what the model's l8Commits and CommitsRight answer. -/
import Derived.Test.YtnmbdannipebnaaGreatDoorJ28
import Derived.Test.YtnmbdannipebnaaGreatDoorJ27
import Derived.Test.YtnmbdannipebnaaGreatDoorJ20
import Derived.Test.YtnmbdannipebnaaGreatDoorChecked
import Derived.Deep.Quiet
import Derived.KernelRfl
import Derived.Test.YtnmbdannipebnaaGreatDoorJ19
import Derived.Test.YtnmbdannipebnaaGreatDoorJ15
import Derived.Test.YtnmbdannipebnaaGreatDoorJ4
import Derived.WalkKit
import Derived.WalkSmall
import Derived.Deep.RegionWith
import Derived.BigQuiet
import Derived.Deep.QuietTactic
import Derived.WalkSpells
import Derived.Deep.RegionHeld3
import Derived.Test.YtnmbdannipebnaaGreatDoorJ10
import Derived.Test.YtnmbdannipebnaaGreatDoorJ5
import Derived.Test.YtnmbdannipebnaaGreatDoorJ9
namespace Go.Proofs.YtnmbdannipebnaaGreatDoor
open Go.RowKit
set_option linter.unusedVariables false
set_option maxRecDepth 100000

theorem atFrom_mem (z : List Int) (zss : List (List Int)) (k : Nat) : decide (atFrom z k zss < 0) = !decide (z ∈ zss) := by
  induction zss generalizing k with
  | nil => simp [atFrom]
  | cons y r ih =>
    unfold atFrom
    by_cases e : y = z
    · subst e
      rw [if_pos rfl]
      simp
    · rw [if_neg e, ih]
      have e' : ¬ z = y := fun q => e q.symm
      simp [e']

set_option maxHeartbeats 8000000 in
theorem l8Commits_any (g : Nat) (s : Sl) (zss : List (List Int)) (x : HS) (h : Hd) (T : TypeId) (w : World) (sb : SBlk w g (hvals x h).toList T) (q : RowOk bytesK w s zss) (hs : sgSome zss = 0) (o : HOk w x h) (nn : HNil w x) (bc : BsCap w x.k.a x.k.n) (hf : hdFlt h = 0) :
    Calls Tryz.prog 120 #[.slice s.a s.n s.c, .pointer (some ⟨g, 0, none⟩)] w fun e w' => e = .returned (.int .i64 (crCode zss h)) ∧ Below w.heap.size w w' := by
  have hsg := sgSome_ok hs
  have hn : s.n = zss.length := q.len
  have D1 := hide (l6Committers_any g x h T w sb o nn bc hf)
  have DA : Hid (∀ (W : World), Below w.heap.size w W → ∀ (t : Sl) (y : List Int), BOk W t y → Calls Tryz.prog 55 #[.slice s.a s.n s.c, .slice t.a t.n t.c] W fun e w' => e = .returned (.int .i64 (atFrom y 0 zss)) ∧ w' = W) := fun W hb t y ht => l7At_any s t zss y W (RowOk.below q hb (Nat.le_refl _)) ht (by omega)
  have DM := hide (fun y => atFrom_mem y zss 0)
  have DQ : Hid (∀ (W : World), Calls Tryz.prog 159 #[.int .i64 (s.n : Nat)] W fun e w' => e = .returned (.int .i64 (qmVal ((zss.length : Nat) : Int))) ∧ w' = W) := fun W => by
    rw [hn]
    exact l8Quorum_any _ W (by unfold within; exact decide_eq_true (by omega))
  have HAL := hide (coAns_len h)
  have HC : Hid (crCode zss h = if coCode h ≠ 0 then coCode h else if (crAll zss (coAns h) && decide (qmVal ((zss.length : Nat) : Int) ≤ (((coAns h).length : Nat) : Int))) = true then 0 else 8) := by show _ = _; unfold crCode; rw [if_neg (by rw [hs]; simp)]
  have HST := hide (fun (yss : List (List Int)) k y e => crAll_step zss yss k y e)
  have hsn : s.n ≤ 7 := by omega
  clear o nn bc q hs sb hf hsg hn
  have HNI := hide (show crAll zss [] = true from rfl)
  generalize crCode zss h = CR at HC ⊢
  generalize coCode h = CC at D1 HC
  generalize coAns h = AA at D1 HAL HC
  generalize qmVal ((zss.length : Nat) : Int) = QV at DQ HC
  generalize crAll zss = CA at HC HST HNI
  obtain ⟨sa, sn, sc⟩ := s
  simp only at *
  go_enter Tryz.func120, Tryz.ntmps120
  go_wp2_with fail
  refine (unhide D1).mono ?_
  rintro e w2 ⟨⟨a, len, cap⟩, d, rfl, hc2, b2⟩
  have rt : RowOk bytesK w2 ⟨a, len, cap⟩ AA := hc2.nrow (by omega)
  have tn : len = AA.length := rt.len
  have HR := hide (fun hp => RowOk.pos rt hp)
  have HL := hide tn
  have hln : len ≤ 7 := by have := unhide HAL; omega
  have HB2 := hide b2
  have HC2 : Hid (CR = if CC ≠ 0 then CC else if (CA AA && decide (QV ≤ ((len : Nat) : Int))) = true then 0 else 8) := by show _ = _; rw [unhide HC, tn]
  clear D1 HC rt hc2 b2 tn HAL
  by_cases h2 : CC = 0
  case neg =>
    have h3 : (CC != 0) = true := by simp [h2]
    have HR : Hid (CR = CC) := by show _ = _; rw [unhide HC2, if_pos h2]
    clear h2
    go_wp2_with fail
    go_ret
    exact ⟨ret_int (unhide HR).symm, unhide HB2⟩
  subst h2
  have HC3 : Hid (CR = if (CA AA && decide (QV ≤ ((len : Nat) : Int))) = true then 0 else 8) := by show _ = _; rw [unhide HC2]; simp
  clear HC2
  go_wp2_with fail
  go_loop [7] (fun i => ∃ k : Nat, k ≤ len ∧ i = .int .i64 k ∧ CA AA = CA (AA.drop k)) (fun i => len - (intOf i).toNat)
  case atStart => exact ⟨0, Nat.zero_le _, rfl, by simp⟩
  case round =>
    obtain ⟨k, hk, rfl, hpre⟩ := hrel
    by_cases hlt : k < len
    · obtain ⟨b, off, ea, hb, hc⟩ := (unhide HR) (by show 0 < len; omega)
      subst ea
      obtain ⟨y, hy⟩ : ∃ v, AA[k]? = some v := ⟨_, List.getElem?_eq_getElem (by rw [← unhide HL]; exact hlt)⟩
      obtain ⟨el, c, oo⟩ := hc k y hy
      have hst := (unhide HST) AA k y hy
      have c0 := c 0 _ rfl
      simp only [Nat.add_zero, Nat.mul_one, show bytesK.m = 1 from rfl] at c0
      have HQ := hide ((unhide DA) w2 (unhide HB2) el y oo)
      have hmm := (unhide DM) y
      have HS2 := hide (And.intro hpre hst)
      have i1 : (0 : Int) ≤ (k : Int) := by omega
      have i2 : (k : Int) < (len : Int) := by omega
      clear hc c oo hst hpre hy
      generalize atFrom y 0 zss = at' at HQ hmm
      by_cases e : y ∈ zss
      · rw [decide_eq_true e] at hmm HS2
        simp only [Bool.not_true] at hmm
        go_wp2_with fail
        refine (unhide HQ).mono ?_
        rintro e w1 ⟨rfl, rfl⟩
        go_wp2_with fail
        go_round
        case rel => exact ⟨k + 1, by omega, by go_num, by rw [(unhide HS2).1, (unhide HS2).2]; rfl⟩
        case measure => simp [intOf]; omega
      · rw [decide_eq_false e] at hmm HS2
        simp only [Bool.not_false] at hmm
        have HE : Hid (CR = 8) := by show _ = _; rw [unhide HC3, (unhide HS2).1, (unhide HS2).2]; simp
        go_wp2_with fail
        refine (unhide HQ).mono ?_
        rintro e w1 ⟨rfl, rfl⟩
        go_wp2_with fail
        go_ret
        exact ⟨ret_int (unhide HE).symm, unhide HB2⟩
    · obtain rfl : k = len := by omega
      rw [List.drop_eq_nil_of_le (by rw [← unhide HL]; exact Nat.le_refl _), unhide HNI] at hpre
      have HC4 : Hid (CR = if decide (QV ≤ ((k : Nat) : Int)) = true then 0 else 8) := by show _ = _; rw [unhide HC3, hpre]; simp
      clear hpre HC3
      go_wp2_with fail
      refine ((unhide DQ) _).mono ?_
      rintro e w1 ⟨rfl, rfl⟩
      by_cases e : QV ≤ ((k : Nat) : Int)
      · have hd : decide (((k : Nat) : Int) < QV) = false := decide_eq_false (by omega)
        have HE : Hid (CR = 0) := by show _ = _; rw [unhide HC4, decide_eq_true e]; simp
        clear e
        go_wp2_with fail
        go_ret
        exact ⟨ret_int (unhide HE).symm, unhide HB2⟩
      · have hd : decide (((k : Nat) : Int) < QV) = true := decide_eq_true (by omega)
        have HE : Hid (CR = 8) := by show _ = _; rw [unhide HC4, decide_eq_false e]; simp
        clear e
        go_wp2_with fail
        go_ret
        exact ⟨ret_int (unhide HE).symm, unhide HB2⟩

end Go.Proofs.YtnmbdannipebnaaGreatDoor

/- What is proved here: the operations of the model's l5Same may be carried out in the order of their text, whatever order is drawn: looked up by the kernel, a few at a time. -/
namespace Go.Proofs.YtnmbdannipebnaaGreatDoor
set_option linter.unusedVariables false
set_option maxRecDepth 100000

/-- The operations of a region of some code. -/
def codeOps : Code → Nat → List Oper
  | .region id ops _, n => if id = n then ops.toList else []
  | .seq a b, n => codeOps a n ++ codeOps b n
  | .cond _ a b, n => codeOps a n ++ codeOps b n
  | .block _ b, n => codeOps b n
  | .loop b, n => codeOps b n
  | .scope b, n => codeOps b n
  | _, _ => []

def opsOf (f : Func) (n : Nat) : List Oper := match f.body with
  | some c => codeOps c n
  | none => []

/-- Of n the first k have come up. -/
def lst (n k : Nat) : Array Bool := (List.replicate k true ++ List.replicate (n - k) false).toArray

def chk (ops : Array Oper) (n k : Nat) : Bool := (Region.ready .any ops (lst n k)).contains k && Region.free .any ops (lst n k) k

end Go.Proofs.YtnmbdannipebnaaGreatDoor

/- What is proved here: what the model's l5SameLists, l5Same and SameHeaders answer. -/
namespace Go.Proofs.YtnmbdannipebnaaGreatDoor
open Go.RowKit
set_option linter.unusedVariables false
set_option maxRecDepth 100000

theorem l1Same_to (a b : Option Addr) (la ca lb cb : Nat) (xs ys : List Int) (c : Bool) (w : World) (ha : BRow w a la xs) (hb : BRow w b lb ys) (e : strEq xs ys = c) :
    Calls Tryz.prog 76 #[.slice a la ca, .slice b lb cb] w fun e w' => e = .returned (.bool c) ∧ w' = w := by
  subst e; exact l1Same_any a b la ca lb cb xs ys w ha hb

theorem l5SameLists_to (a b : Option Addr) (la ca lb cb : Nat) (xs ys : List (List Int)) (c : Bool) (w : World) (ha : BsRow w a la xs) (hb : BsRow w b lb ys) (hl : la ≤ 1048576) (hl2 : lb ≤ 1048576) (e : sameLs xs ys = c) :
    Calls Tryz.prog 121 #[.slice a la ca, .slice b lb cb] w fun e w' => e = .returned (.bool c) ∧ ∃ n, w' = w.drewN n := by
  subst e; exact l5SameLists_any a b la ca lb cb xs ys w ha hb hl hl2

end Go.Proofs.YtnmbdannipebnaaGreatDoor

/- What is proved here: what the model's HashOf and SealHash answer: the fault of a header, or the hash of its bytes in new memory. -/
namespace Go.Proofs.YtnmbdannipebnaaGreatDoor
open Go.RowKit
set_option linter.unusedVariables false
set_option maxRecDepth 100000

end Go.Proofs.YtnmbdannipebnaaGreatDoor

/- What is proved here: what the model's l6Right and SealRight answer: whether the seal is that of the header. -/
namespace Go.Proofs.YtnmbdannipebnaaGreatDoor
open Go.RowKit
set_option linter.unusedVariables false
set_option maxRecDepth 100000

set_option maxHeartbeats 8000000 in
theorem l6Right_any (g : Nat) (x : HS) (h : Hd) (T : TypeId) (w : World) (sb : SBlk w g (hvals x h).toList T) (o : HOk w x h) (nn : HNil w x) (hf : hdFlt h = 0) :
    Calls Tryz.prog 77 #[.pointer (some ⟨g, 0, none⟩)] w fun e w' => e = .returned (.bool (strEq h.e (sealL h.g (kcBytes (packL (noK (noE h))))))) ∧ Below w.heap.size w w' := by
  have HRR : Hid (∀ W, Below w.heap.size w W → (W.cell? ⟨g, 0, none⟩ = some (.slice x.p.a x.p.n x.p.c) ∧ W.cell? ⟨g, 1, none⟩ = some (.int .i64 h.n1) ∧ W.cell? ⟨g, 2, none⟩ = some (.int .i64 h.n2) ∧ W.cell? ⟨g, 3, none⟩ = some (.int .i64 h.n3) ∧ W.cell? ⟨g, 4, none⟩ = some (.slice x.t.a x.t.n x.t.c) ∧ W.cell? ⟨g, 5, none⟩ = some (.int .i64 h.n5) ∧ W.cell? ⟨g, 6, none⟩ = some (.slice x.s.a x.s.n x.s.c) ∧ W.cell? ⟨g, 7, none⟩ = some (.slice x.r.a x.r.n x.r.c) ∧ W.cell? ⟨g, 8, none⟩ = some (.slice x.g.a x.g.n x.g.c) ∧ W.cell? ⟨g, 9, none⟩ = some (.slice x.e.a x.e.n x.e.c) ∧ W.cell? ⟨g, 10, none⟩ = some (.slice x.k.a x.k.n x.k.c))) := fun W hb => hcells (sb.below hb sb.lt)
  have HSH : Hid (∀ W, Below w.heap.size w W → Calls Tryz.prog 118 #[.agg (hvals x h)] W fun e w' => ∃ d c, e = .returned (.slice (some ⟨d, 0, none⟩) 32 c) ∧ BRow w' (some ⟨d, 0, none⟩) 32 (kcBytes (packL (noK (noE h)))) ∧ Below w.heap.size w w') := fun W hb => by
    refine (l5SealHash_any x h W (o.below hb (Nat.le_refl _)) (nn.below hb (Nat.le_refl _)) hf).mono ?_
    rintro e w' ⟨d, c, rfl, ho, hb'⟩
    exact ⟨d, c, rfl, BRow.own2 ho (kcBytes_range _ (packL_rng (hdFlt_noK (hdFlt_noE hf)) o.noE.noK)), hb.trans (hb'.mono hb.size)⟩
  have HSE : Hid (∀ W d c, Below w.heap.size w W → BRow W (some ⟨d, 0, none⟩) 32 (kcBytes (packL (noK (noE h)))) → Calls Tryz.prog 117 #[.slice x.g.a x.g.n x.g.c, .slice (some ⟨d, 0, none⟩) 32 c] W fun e w' => ∃ d' c', e = .returned (.slice (some ⟨d', 0, none⟩) 4 c') ∧ BRow w' (some ⟨d', 0, none⟩) 4 (sealL h.g (kcBytes (packL (noK (noE h))))) ∧ Below w.heap.size w w') := fun W d c hb hr => by
    have g1 := o.g.1
    have g2 := (good_of hf).g
    refine (l6Seal_any x.g.a x.g.n x.g.c (some ⟨d, 0, none⟩) 32 c h.g _ W (o.g.below hb (Nat.le_refl _)) hr nn.g (fun e => by cases e) (by omega) (by omega)).mono ?_
    rintro e w' ⟨d', c', rfl, ho, hb'⟩
    exact ⟨d', c', rfl, BRow.own2 ho (sealL_rng o.g.2.1 hr.2.1), hb.trans (hb'.mono hb.size)⟩
  have HSM : Hid (∀ W d c, Below w.heap.size w W → BRow W (some ⟨d, 0, none⟩) 4 (sealL h.g (kcBytes (packL (noK (noE h))))) → Calls Tryz.prog 76 #[.slice x.e.a x.e.n x.e.c, .slice (some ⟨d, 0, none⟩) 4 c] W fun e w' => e = .returned (.bool (strEq h.e (sealL h.g (kcBytes (packL (noK (noE h))))))) ∧ Below w.heap.size w w') := fun W d c hb hr => by
    refine (l1Same_any x.e.a (some ⟨d, 0, none⟩) x.e.n x.e.c 4 c h.e _ W (o.e.below hb (Nat.le_refl _)) hr).mono ?_
    rintro e w' ⟨rfl, rfl⟩
    exact ⟨rfl, hb⟩
  clear o nn hf sb
  generalize strEq h.e (sealL h.g (kcBytes (packL (noK (noE h))))) = t at HSM ⊢
  generalize sealL h.g (kcBytes (packL (noK (noE h)))) = SL at HSE HSM
  generalize kcBytes (packL (noK (noE h))) = KB at HSH HSE
  unfold hvals at HSH
  go_enter Tryz.func77, Tryz.ntmps77
  go_wp2_with fail
  go_region_held3 (fun W => (W.cell? ⟨g, 0, none⟩ = some (.slice x.p.a x.p.n x.p.c) ∧ W.cell? ⟨g, 1, none⟩ = some (.int .i64 h.n1) ∧ W.cell? ⟨g, 2, none⟩ = some (.int .i64 h.n2) ∧ W.cell? ⟨g, 3, none⟩ = some (.int .i64 h.n3) ∧ W.cell? ⟨g, 4, none⟩ = some (.slice x.t.a x.t.n x.t.c) ∧ W.cell? ⟨g, 5, none⟩ = some (.int .i64 h.n5) ∧ W.cell? ⟨g, 6, none⟩ = some (.slice x.s.a x.s.n x.s.c) ∧ W.cell? ⟨g, 7, none⟩ = some (.slice x.r.a x.r.n x.r.c) ∧ W.cell? ⟨g, 8, none⟩ = some (.slice x.g.a x.g.n x.g.c) ∧ W.cell? ⟨g, 9, none⟩ = some (.slice x.e.a x.e.n x.e.c) ∧ W.cell? ⟨g, 10, none⟩ = some (.slice x.k.a x.k.n x.k.c)))
    (exact (unhide HRR) _ (by first | assumption | exact Below.refl w.heap.size w | exact (Below.refl w.heap.size w).drew | exact below_drewN (Below.refl w.heap.size w) _ | exact below_drewN (by assumption) _))
    (first
      | (go_at_call 118; refine ((unhide HSH) _ (by first | exact (Below.refl w.heap.size w).drew | exact below_drewN (Below.refl w.heap.size w) _)).mono ?_; rintro e w3 ⟨d3, c3, rfl, r3, K3⟩)
      | (go_at_call 117; refine ((unhide HSE) _ d3 c3 K3 r3).mono ?_; rintro e w4 ⟨d4, c4, rfl, r4, K4⟩)
      | (go_at_call 76; refine ((unhide HSM) _ d4 c4 K4 r4).mono ?_; rintro e w5 ⟨rfl, K5⟩))
  all_goals
    have HB5 := hide K5
    clear HRR HSH HSE HSM K3 K4 K5 r3 r4
    go_wp2_with fail
    go_ret
    exact ⟨rfl, unhide HB5⟩

end Go.Proofs.YtnmbdannipebnaaGreatDoor

/- What is proved here: what the model's l9Mode, l9Votes answer. -/
namespace Go.Proofs.YtnmbdannipebnaaGreatDoor
open Go.RowKit
set_option linter.unusedVariables false
set_option linter.unusedSimpArgs false
set_option maxRecDepth 100000

theorem wr_eq {x : Sn} {z : List Int} {n : Int} (hx : snFlt x = 0) (hn : 0 ≤ n ∧ n ≤ 1099511627776) : wrAns x z n = rcAny (n - ((x.2.1.length / 2 : Nat) : Int) - 1) z x.2.2.1 := by
  have h : within n 0 1099511627776 = true := by unfold within; simp [hn]
  unfold wrAns
  rw [h, hx]
  simp

theorem tr_eq {x : Sn} {z : List Int} {n : Int} (hx : snFlt x = 0) (hn : 0 ≤ n ∧ n ≤ 1099511627776) (hz : z ∈ x.2.1) : trVal x z n = if (atFrom z 0 x.2.1 == n % ((x.2.1.length : Nat) : Int)) = true then 2 else 1 := by
  have h : within n 0 1099511627776 = true := by unfold within; simp [hn]
  unfold trVal
  rw [atFrom_low (sg_rise (snFlt_sg hx).1).2.2 z hz, h, hx]
  simp [hz]

set_option maxHeartbeats 4000000 in
theorem l9Mode_any (gc gx gh : Nat) (c : Cf) (e : SnS) (x : Sn) (nx : HS) (n : Hd) (w : World) (kc : SBlk w gc (cfvals c).toList 35) (kx : SBlk w gx (snvals e x).toList 40) (kh : SBlk w gh (hvals nx n).toList 42)
    (os : SNK.Ok w e x) (on : HKd w nx n) (hc : cfFlt c = 0) (hx : snFlt x = 0) (hn : hdFlt n = 0) (hg : n.g ∈ x.2.1) :
    Calls Tryz.prog 78 #[.pointer (some ⟨gc, 0, none⟩), .pointer (some ⟨gx, 0, none⟩), .pointer (some ⟨gh, 0, none⟩)] w fun r w' => r = .returned (.int .i64 (fnz (ckMode c x n))) ∧ Below w.heap.size w w' := by
  have hnn := (good_of hn).n1
  have ll : e.2.1.n = x.2.1.length := os.2.1.len
  have lk : nx.k.n = n.k.length := on.ok.k.1.symm
  have hsg := snFlt_sg hx
  have c0 : w.cell? ⟨gc, 0, none⟩ = some (.int .i64 c.1) := kc.cell 0
  rcases (cf_ok hc).1 with h1 | h1
  · have DR := hide (fun (k : Nat) => l7Recent_any gx e x 40 nx.g n.g n.n1 (w.drewN k) (kx.below (below_drewN (Below.refl w.heap.size w) k) kx.lt) (RowOk.below os.2.2.1 (below_drewN (Below.refl w.heap.size w) k) (Nat.le_refl _)) (bytesK.below on.g (below_drewN (Below.refl w.heap.size w) k) (Nat.le_refl _)) (by omega) (by
      have := hx
      unfold snFlt at this
      split at this
      · omega
      · split at this
        · omega
        · split at this
          · omega
          · rename_i h
            omega) hnn)
    have DT := hide (fun (k : Nat) => l7Turn_any gx e x 40 nx.g n.g n.n1 (w.drewN k) (kx.below (below_drewN (Below.refl w.heap.size w) k) kx.lt) (RowOk.below os.2.1 (below_drewN (Below.refl w.heap.size w) k) (Nat.le_refl _)) (bytesK.below on.g (below_drewN (Below.refl w.heap.size w) k) (Nat.le_refl _)) (by omega) hnn)
    have HS : Hid (∀ k, (w.drewN k).cell? ⟨gh, 1, none⟩ = some (.int .i64 n.n1) ∧ (w.drewN k).cell? ⟨gh, 3, none⟩ = some (.int .i64 n.n3) ∧ (w.drewN k).cell? ⟨gh, 8, none⟩ = some (.slice nx.g.a nx.g.n nx.g.c)) := fun k => ⟨(kh.below (below_drewN (Below.refl w.heap.size w) k) kh.lt).cell 1, (kh.below (below_drewN (Below.refl w.heap.size w) k) kh.lt).cell 3, (kh.below (below_drewN (Below.refl w.heap.size w) k) kh.lt).cell 8⟩
    have x1 : w.cell? ⟨gh, 1, none⟩ = some (.int .i64 n.n1) := kh.cell 1
    have x3 : w.cell? ⟨gh, 3, none⟩ = some (.int .i64 n.n3) := kh.cell 3
    have x8 : w.cell? ⟨gh, 8, none⟩ = some (.slice nx.g.a nx.g.n nx.g.c) := kh.cell 8
    have x10 : w.cell? ⟨gh, 10, none⟩ = some (.slice nx.k.a nx.k.n nx.k.c) := kh.cell 10
    have HV : Hid (fnz (ckMode c x n) = if nx.k.n = 0 then (if (rcAny (n.n1 - ((e.2.1.n / 2 : Nat) : Int) - 1) n.g x.2.2.1 || n.n3 != (if (atFrom n.g 0 x.2.1 == n.n1 % ((e.2.1.n : Nat) : Int)) = true then 2 else 1)) = true then 8 else 0) else 1) := by
      show _ = _
      unfold ckMode hdV
      rw [if_pos h1, if_neg (by omega), wr_eq hx hnn, tr_eq hx hnn hg, ll, lk]
      generalize rcAny (n.n1 - ((x.2.1.length / 2 : Nat) : Int) - 1) n.g x.2.2.1 = ra
      generalize (if (atFrom n.g 0 x.2.1 == n.n1 % ((x.2.1.length : Nat) : Int)) = true then (2 : Int) else 1) = tv
      by_cases hk : n.k.length = 0
      · rw [if_pos hk]
        cases ra <;> by_cases ht : n.n3 = tv <;> simp [fnz, unl, hk, ht]
      · rw [if_neg hk]
        simp [fnz, unl, hk]
    generalize rcAny (n.n1 - ((e.2.1.n / 2 : Nat) : Int) - 1) n.g x.2.2.1 = ra at DR HV
    generalize (if (atFrom n.g 0 x.2.1 == n.n1 % ((e.2.1.n : Nat) : Int)) = true then (2 : Int) else 1) = tv at DT HV
    generalize fnz (ckMode c x n) = V at HV ⊢
    rw [h1] at c0
    clear kc kx kh os on hc hx hn hg hnn ll lk hsg h1
    by_cases hk : nx.k.n = 0
    · rw [if_pos hk] at HV
      have hd : decide (((nx.k.n : Nat) : Int) > 0) = false := decide_eq_false (by omega)
      have hd' : decide (0 < nx.k.n) = false := decide_eq_false (by omega)
      go_enter Tryz.func78, Tryz.ntmps78
      go_wp2_with fail
      cases ra
      · by_cases ht : n.n3 = tv
        · have hne : (n.n3 != tv) = false := by simp [ht]
          go_quiet ((first
            | (go_at_call 119; exact Calls.quiet_of ((unhide DR) _))
            | (go_at_call 100; exact Calls.quiet_of ((unhide DT) _))))
          go_wp2_with fail
          go_ret
          exact ⟨by rw [unhide HV]; simp [ht], below_drewN (Below.refl _ _) _⟩
        · have hne : (n.n3 != tv) = true := by simp [ht]
          go_quiet ((first
            | (go_at_call 119; exact Calls.quiet_of ((unhide DR) _))
            | (go_at_call 100; exact Calls.quiet_of ((unhide DT) _))))
          go_wp2_with fail
          go_ret
          exact ⟨by rw [unhide HV]; simp [ht], below_drewN (Below.refl _ _) _⟩
      · go_quiet ((first
            | (go_at_call 119; exact Calls.quiet_of ((unhide DR) _))
            | (go_at_call 100; exact Calls.quiet_of ((unhide DT) _))))
        go_wp2_with fail
        go_ret
        exact ⟨by rw [unhide HV]; simp, below_drewN (Below.refl _ _) _⟩
    · rw [if_neg hk] at HV
      have hd : decide (((nx.k.n : Nat) : Int) > 0) = true := decide_eq_true (by omega)
      have hd' : decide (0 < nx.k.n) = true := decide_eq_true (by omega)
      go_enter Tryz.func78, Tryz.ntmps78
      go_wp2_with fail
      go_ret
      exact ⟨by rw [unhide HV]; rfl, Below.refl _ _⟩
  · have DC := hide (l8Commits_any gh e.2.1 x.2.1 nx n 42 w kh os.2.1 (by
      have := hx
      unfold snFlt at this
      split at this
      · omega
      · split at this
        · rename_i h; exact absurd this h
        · rename_i h; simpa using h) on.ok on.nn on.bc hn)
    have x3 : w.cell? ⟨gh, 3, none⟩ = some (.int .i64 n.n3) := kh.cell 3
    have s1 : w.cell? ⟨gx, 1, none⟩ = some (.slice e.2.1.a e.2.1.n e.2.1.c) := kx.cell 1
    have HV : Hid (fnz (ckMode c x n) = if n.n3 = 1 then crCode x.2.1 n else 8) := by
      show _ = _
      unfold ckMode hdV
      rw [if_neg (by omega), if_pos h1, if_pos h1]
      by_cases ht : n.n3 = 1
      · rw [if_pos ht]
        simp [fnz, unl, ht]
        intro h
        exact h.symm
      · rw [if_neg ht]
        simp [fnz, unl, ht]
    generalize crCode x.2.1 n = cr at DC HV
    generalize fnz (ckMode c x n) = V at HV ⊢
    rw [h1] at c0
    clear kc kx kh os on hc hx hn hg hnn ll lk hsg h1
    by_cases ht : n.n3 = 1
    · have hne : (n.n3 != 1) = false := by simp [ht]
      rw [if_pos ht] at HV
      clear ht
      go_enter Tryz.func78, Tryz.ntmps78
      go_wp2_with fail
      refine (unhide DC).mono ?_
      rintro r w1 ⟨rfl, b1⟩
      go_wp2_with fail
      go_ret
      exact ⟨by rw [unhide HV]; rfl, b1⟩
    · have hne : (n.n3 != 1) = true := by simp [ht]
      rw [if_neg ht] at HV
      clear ht
      go_enter Tryz.func78, Tryz.ntmps78
      go_wp2_with fail
      go_ret
      exact ⟨by rw [unhide HV]; rfl, Below.refl _ _⟩

set_option maxHeartbeats 4000000 in
theorem l9Votes_any (gc gx gh : Nat) (c : Cf) (e : SnS) (x : Sn) (nx : HS) (n : Hd) (w : World) (kc : SBlk w gc (cfvals c).toList 35) (kx : SBlk w gx (snvals e x).toList 40) (kh : SBlk w gh (hvals nx n).toList 42)
    (os : SNK.Ok w e x) (ms : SnSm x) (on : HKd w nx n) (hc : cfFlt c = 0) (hn : hdFlt n = 0) :
    Calls Tryz.prog 79 #[.pointer (some ⟨gc, 0, none⟩), .pointer (some ⟨gx, 0, none⟩), .pointer (some ⟨gh, 0, none⟩)] w fun r w' => r = .returned (.bool (vtB c x n)) ∧ Below w.heap.size w w' := by
  have hnn := (good_of hn).n1
  have lt : nx.t.n = n.t.length := on.ok.t.1.symm
  have ls : nx.s.n = n.s.length := on.ok.s.1.symm
  have DC := hide (l8Checkpoint_any gc c n.n1 35 w kc hc hnn)
  have DS := hide (fun (k : Nat) => l5SameLists_to nx.s.a e.2.1.a nx.s.n nx.s.c e.2.1.n e.2.1.c n.s x.2.1 _ (w.drewN k) (on.ok.s.below (below_drewN (Below.refl w.heap.size w) k) (Nat.le_refl _)) ((bs_of_row os.2.1).below (below_drewN (Below.refl w.heap.size w) k) (Nat.le_refl _)) (by have := (good_of hn).s; omega) (by rw [show e.2.1.n = x.2.1.length from os.2.1.len]; exact ms.s) rfl)
  have x1 : w.cell? ⟨gh, 1, none⟩ = some (.int .i64 n.n1) := kh.cell 1
  have x4 : w.cell? ⟨gh, 4, none⟩ = some (.slice nx.t.a nx.t.n nx.t.c) := kh.cell 4
  have x5 : w.cell? ⟨gh, 5, none⟩ = some (.int .i64 n.n5) := kh.cell 5
  have x6 : w.cell? ⟨gh, 6, none⟩ = some (.slice nx.s.a nx.s.n nx.s.c) := kh.cell 6
  have s1 : w.cell? ⟨gx, 1, none⟩ = some (.slice e.2.1.a e.2.1.n e.2.1.c) := kx.cell 1
  have hck : cfCk c n.n1 = decide (n.n1 % c.2.2 = 0) := by
    have h : within n.n1 0 1099511627776 = true := by unfold within; simp [hnn]
    unfold cfCk
    rw [h, hc]
    simp
  have HVT : Hid (vtB c x n = if cfCk c n.n1 = true then (n.t.length == 0) && ((n.n5 == 0) && sameLs n.s x.2.1) else ((n.t.length == 0) == (n.n5 == 0)) && (n.s.length == 0)) := rfl
  rw [hck] at HVT
  have q1 : (((nx.t.n : Nat) : Int) == 0) = (n.t.length == 0) := by rw [lt]; cases n.t <;> rfl
  have q2 : (((nx.s.n : Nat) : Int) == 0) = (n.s.length == 0) := by rw [ls]; cases n.s <;> rfl
  clear lt ls hck kc kx kh os on hc hn hnn
  generalize vtB c x n = B at HVT ⊢
  generalize decide (n.n1 % c.2.2 = 0) = K at DC HVT
  generalize sameLs n.s x.2.1 = SL at DS HVT
  generalize (n.t.length == 0) = T0 at q1 HVT
  generalize hN0 : (n.n5 == 0) = N0 at HVT
  generalize (n.s.length == 0) = S0 at q2 HVT
  cases K
  · have HB : Hid (B = ((T0 == N0) && S0)) := unhide HVT
    clear HVT DS
    cases T0 <;> cases N0 <;> cases S0
    all_goals
      go_enter Tryz.func79, Tryz.ntmps79
      go_wp2_with fail
      refine (unhide DC).mono ?_
      rintro r w1 ⟨rfl, rfl⟩
      go_wp2_with fail
      try go_quiet (fail)
      try go_wp2_with fail
      go_ret
      exact ⟨by rw [unhide HB]; rfl, by first | exact Below.refl _ _ | exact below_drewN (Below.refl _ _) _⟩
  · have HB : Hid (B = (T0 && (N0 && SL))) := unhide HVT
    clear HVT
    cases T0 <;> cases N0
    all_goals
      go_enter Tryz.func79, Tryz.ntmps79
      go_wp2_with fail
      refine (unhide DC).mono ?_
      rintro r w1 ⟨rfl, rfl⟩
      go_wp2_with fail
      try go_quiet ((go_at_call 121; exact Calls.quiet_of ((unhide DS) _)))
      try go_wp2_with fail
      go_ret
      exact ⟨by rw [unhide HB]; rfl, by first | exact Below.refl _ _ | exact below_drewN (Below.refl _ _) _⟩

end Go.Proofs.YtnmbdannipebnaaGreatDoor

/- What is proved here: what the model's l9Check and CheckNext answer. -/
namespace Go.Proofs.YtnmbdannipebnaaGreatDoor
open Go.RowKit
set_option linter.unusedVariables false
set_option linter.unusedSimpArgs false
set_option maxRecDepth 100000

theorem fnz_cons_unl (b : Bool) (k : Int) (r : List Int) (hk : k ≠ 0) : fnz (unl b k :: r) = if b = true then fnz r else k := by
  cases b
  · simp [fnz, unl, hk]
  · simp [fnz, unl]

set_option maxHeartbeats 8000000 in
theorem l9Check_any (gc gx gp gh : Nat) (hs : Sl) (hz : List Int) (c : Cf) (e : SnS) (x : Sn) (px : HS) (p : Hd) (nx : HS) (n : Hd) (w : World) (kc : SBlk w gc (cfvals c).toList 35) (kx : SBlk w gx (snvals e x).toList 40) (kp : SBlk w gp (hvals px p).toList 42) (kh : SBlk w gh (hvals nx n).toList 42)
    (o : StOk w e x px p nx n) (oh : BRow w hs.a hs.n hz) (hc : cfFlt c = 0) (hx : snFlt x = 0) (hp : hdFlt p = 0) (hn : hdFlt n = 0) :
    Calls Tryz.prog 31 #[.pointer (some ⟨gc, 0, none⟩), .pointer (some ⟨gx, 0, none⟩), .pointer (some ⟨gp, 0, none⟩), .slice hs.a hs.n hs.c, .pointer (some ⟨gh, 0, none⟩)] w fun r w' => r = .returned (.int .i64 (fnz (unl (x.1 == p.n1) 9 :: unl (strEq n.p hz) 4 :: unl (n.n1 == x.1 + 1) 3 :: unl (decide (p.n2 + c.2.1 ≤ n.n2)) 8 :: unl (srB n) 7 :: unl (decide (n.g ∈ x.2.1)) 8 :: (ckMode c x n ++ [unl (vtB c x n) 8])))) ∧ Below w.heap.size w w' := by
  have pg := good_of hp
  have ng := good_of hn
  have cg := cf_ok hc
  rw [fnz_cons_unl _ _ _ (by omega), fnz_cons_unl _ _ _ (by omega), fnz_cons_unl _ _ _ (by omega), fnz_cons_unl _ _ _ (by omega), fnz_cons_unl _ _ _ (by omega), fnz_cons_unl _ _ _ (by omega), fnz_app]
  have HVV : Hid (fnz [unl (vtB c x n) 8] = if vtB c x n = true then 0 else 8) := by show _ = _; rw [fnz_cons_unl _ _ _ (by omega)]; rfl
  rw [unhide HVV]
  have hw1 : IntKind.i64.wrap (p.n1 + 1) = p.n1 + 1 := by rw [IntKind.wrap_i64]; have := pg.n1; omega
  have hw2 : IntKind.i64.wrap (p.n2 + c.2.1) = p.n2 + c.2.1 := by rw [IntKind.wrap_i64]; have := pg.n2; have := cg.2.1; omega
  have HK := hide (fun (W : World) (hb : Below w.heap.size w W) => And.intro (kc.below hb kc.lt) (And.intro (kx.below hb kx.lt) (And.intro (kp.below hb kp.lt) (kh.below hb kh.lt))))
  have DS := hide (fun (k : Nat) => l1Same_to nx.p.a hs.a nx.p.n nx.p.c hs.n hs.c n.p hz _ (w.drewN k) (o.on.ok.p.below (below_drewN (Below.refl w.heap.size w) k) (Nat.le_refl _)) (oh.below (below_drewN (Below.refl w.heap.size w) k) (Nat.le_refl _)) rfl)
  have hsr : strEq n.e (sealL n.g (kcBytes (packL (noK (noE n))))) = srB n := by unfold srB sealH; rw [if_pos hn]
  have DR := hide (fun (W : World) (hb : Below w.heap.size w W) => l6Right_any gh nx n 42 W (kh.below hb kh.lt) (o.on.ok.below hb (Nat.le_refl _)) (o.on.nn.below hb (Nat.le_refl _)) hn)
  rw [hsr] at DR
  have DA := hide (fun (W : World) (hb : Below w.heap.size w W) => l7At_any e.2.1 nx.g x.2.1 n.g W (RowOk.below o.os.2.1 hb (Nat.le_refl _)) (bytesK.below o.on.g hb (Nat.le_refl _)) o.ms.s)
  have hat : decide (atFrom n.g 0 x.2.1 < 0) = !decide (n.g ∈ x.2.1) := by have h := atFrom_neg n.g x.2.1 0; rw [h]; by_cases q : n.g ∈ x.2.1 <;> simp [q]
  have DM := hide (fun (W : World) (hb : Below w.heap.size w W) (hg : n.g ∈ x.2.1) => l9Mode_any gc gx gh c e x nx n W (kc.below hb kc.lt) (kx.below hb kx.lt) (kh.below hb kh.lt) (SNK.below o.os hb (Nat.le_refl _)) (o.on.below hb (Nat.le_refl _)) hc hx hn hg)
  have DV := hide (fun (W : World) (hb : Below w.heap.size w W) => l9Votes_any gc gx gh c e x nx n W (kc.below hb kc.lt) (kx.below hb kx.lt) (kh.below hb kh.lt) (SNK.below o.os hb (Nat.le_refl _)) o.ms (o.on.below hb (Nat.le_refl _)) hc hn)
  have xn : w.cell? ⟨gx, 0, none⟩ = some (.int .i64 x.1) := kx.cell 0
  have p1 : w.cell? ⟨gp, 1, none⟩ = some (.int .i64 p.n1) := kp.cell 1
  have p2 : w.cell? ⟨gp, 2, none⟩ = some (.int .i64 p.n2) := kp.cell 2
  have c1 : w.cell? ⟨gc, 1, none⟩ = some (.int .i64 c.2.1) := kc.cell 1
  have h0 : w.cell? ⟨gh, 0, none⟩ = some (.slice nx.p.a nx.p.n nx.p.c) := kh.cell 0
  have h1 : w.cell? ⟨gh, 1, none⟩ = some (.int .i64 n.n1) := kh.cell 1
  have h2 : w.cell? ⟨gh, 2, none⟩ = some (.int .i64 n.n2) := kh.cell 2
  clear kc kx kp kh o oh hc hx hp hn pg ng cg hsr HVV
  generalize strEq n.p hz = bS at DS ⊢
  generalize srB n = bR at DR ⊢
  generalize vtB c x n = bV at DV ⊢
  generalize fnz (ckMode c x n) = kM at DM ⊢
  have xs : w.cell? ⟨gx, 1, none⟩ = some (.slice e.2.1.a e.2.1.n e.2.1.c) := ((unhide HK) w (Below.refl _ _)).2.1.cell 1
  have h8 : w.cell? ⟨gh, 8, none⟩ = some (.slice nx.g.a nx.g.n nx.g.c) := ((unhide HK) w (Below.refl _ _)).2.2.2.cell 8
  obtain ⟨V, hV⟩ : ∃ V, V = (if (x.1 == p.n1) = true then (if bS = true then (if (n.n1 == x.1 + 1) = true then (if decide (p.n2 + c.2.1 ≤ n.n2) = true then (if bR = true then (if decide (n.g ∈ x.2.1) = true then (if kM = 0 then (if bV = true then 0 else 8) else kM) else 8) else 7) else 8) else 3) else 4) else 9) := ⟨_, rfl⟩
  rw [← hV]
  have HV := hide hV
  clear hV
  go_enter Tryz.func31, Tryz.ntmps31
  go_wp2_with fail
  by_cases e1 : x.1 = p.n1
  case neg =>
    have q1 : (x.1 != p.n1) = true := by simp [e1]
    go_quiet (fail)
    go_wp2_with fail
    go_ret
    exact ⟨by rw [unhide HV]; simp [e1], below_drewN (Below.refl _ _) _⟩
  have q1 : (x.1 != p.n1) = false := by simp [e1]
  have HE1 := hide e1
  clear e1
  go_quiet (fail)
  go_wp2_with fail
  refine ((unhide DS) _).mono ?_
  rintro r w1 ⟨rfl, rfl⟩
  cases bS
  · have e1 := unhide HE1
    go_wp2_with fail
    go_ret
    exact ⟨by rw [unhide HV]; simp [e1], below_drewN (Below.refl _ _) _⟩
  go_wp2_with fail
  obtain ⟨W1, eW1⟩ : ∃ W, w.drewN nq = W := ⟨_, rfl⟩
  have B1 : Below w.heap.size w W1 := by rw [← eW1]; exact below_drewN (Below.refl _ _) _
  rw [eW1]
  clear eW1
  clear xn xs p1 p2 c1 h0 h1 h2 h8
  obtain ⟨ac, ax, ap, ah⟩ := (unhide HK) W1 B1
  have xn : W1.cell? ⟨gx, 0, none⟩ = some (.int .i64 x.1) := ax.cell 0
  have xs : W1.cell? ⟨gx, 1, none⟩ = some (.slice e.2.1.a e.2.1.n e.2.1.c) := ax.cell 1
  have p1 : W1.cell? ⟨gp, 1, none⟩ = some (.int .i64 p.n1) := ap.cell 1
  have p2 : W1.cell? ⟨gp, 2, none⟩ = some (.int .i64 p.n2) := ap.cell 2
  have c1 : W1.cell? ⟨gc, 1, none⟩ = some (.int .i64 c.2.1) := ac.cell 1
  have h0 : W1.cell? ⟨gh, 0, none⟩ = some (.slice nx.p.a nx.p.n nx.p.c) := ah.cell 0
  have h1 : W1.cell? ⟨gh, 1, none⟩ = some (.int .i64 n.n1) := ah.cell 1
  have h2 : W1.cell? ⟨gh, 2, none⟩ = some (.int .i64 n.n2) := ah.cell 2
  have h8 : W1.cell? ⟨gh, 8, none⟩ = some (.slice nx.g.a nx.g.n nx.g.c) := ah.cell 8
  clear ac ax ap ah
  clear nq
  by_cases e2 : n.n1 = p.n1 + 1
  case neg =>
    have q2 : (n.n1 != p.n1 + 1) = true := by simp [e2]
    go_quiet (fail)
    have e1 := unhide HE1
    go_wp2_with fail
    go_ret
    exact ⟨by rw [unhide HV]; simp [e1, e2], below_drewN B1 _⟩
  have q2 : (n.n1 != p.n1 + 1) = false := by simp [e2]
  have HE2 := hide e2
  clear e2
  go_quiet (fail)
  go_wp2_with fail
  obtain ⟨W2, eW2⟩ : ∃ W, W1.drewN nq = W := ⟨_, rfl⟩
  have B2 : Below w.heap.size w W2 := by rw [← eW2]; exact below_drewN B1 _
  rw [eW2]
  clear eW2
  clear xn xs p1 p2 c1 h0 h1 h2 h8
  obtain ⟨ac, ax, ap, ah⟩ := (unhide HK) W2 B2
  have xn : W2.cell? ⟨gx, 0, none⟩ = some (.int .i64 x.1) := ax.cell 0
  have xs : W2.cell? ⟨gx, 1, none⟩ = some (.slice e.2.1.a e.2.1.n e.2.1.c) := ax.cell 1
  have p1 : W2.cell? ⟨gp, 1, none⟩ = some (.int .i64 p.n1) := ap.cell 1
  have p2 : W2.cell? ⟨gp, 2, none⟩ = some (.int .i64 p.n2) := ap.cell 2
  have c1 : W2.cell? ⟨gc, 1, none⟩ = some (.int .i64 c.2.1) := ac.cell 1
  have h0 : W2.cell? ⟨gh, 0, none⟩ = some (.slice nx.p.a nx.p.n nx.p.c) := ah.cell 0
  have h1 : W2.cell? ⟨gh, 1, none⟩ = some (.int .i64 n.n1) := ah.cell 1
  have h2 : W2.cell? ⟨gh, 2, none⟩ = some (.int .i64 n.n2) := ah.cell 2
  have h8 : W2.cell? ⟨gh, 8, none⟩ = some (.slice nx.g.a nx.g.n nx.g.c) := ah.cell 8
  clear ac ax ap ah
  clear nq
  by_cases e3 : p.n2 + c.2.1 ≤ n.n2
  case neg =>
    have q3 : decide (n.n2 < p.n2 + c.2.1) = true := decide_eq_true (by omega)
    go_quiet (fail)
    have e1 := unhide HE1
    have e2 := unhide HE2
    go_wp2_with fail
    go_ret
    exact ⟨by rw [unhide HV]; simp [e1, e2]; omega, below_drewN B2 _⟩
  have q3 : decide (n.n2 < p.n2 + c.2.1) = false := decide_eq_false (by omega)
  have HE3 := hide e3
  clear e3
  go_quiet (fail)
  go_wp2_with fail
  obtain ⟨W3, eW3⟩ : ∃ W, W2.drewN nq = W := ⟨_, rfl⟩
  have B3 : Below w.heap.size w W3 := by rw [← eW3]; exact below_drewN B2 _
  rw [eW3]
  clear eW3
  clear xn xs p1 p2 c1 h0 h1 h2 h8
  obtain ⟨ac, ax, ap, ah⟩ := (unhide HK) W3 B3
  have xn : W3.cell? ⟨gx, 0, none⟩ = some (.int .i64 x.1) := ax.cell 0
  have xs : W3.cell? ⟨gx, 1, none⟩ = some (.slice e.2.1.a e.2.1.n e.2.1.c) := ax.cell 1
  have p1 : W3.cell? ⟨gp, 1, none⟩ = some (.int .i64 p.n1) := ap.cell 1
  have p2 : W3.cell? ⟨gp, 2, none⟩ = some (.int .i64 p.n2) := ap.cell 2
  have c1 : W3.cell? ⟨gc, 1, none⟩ = some (.int .i64 c.2.1) := ac.cell 1
  have h0 : W3.cell? ⟨gh, 0, none⟩ = some (.slice nx.p.a nx.p.n nx.p.c) := ah.cell 0
  have h1 : W3.cell? ⟨gh, 1, none⟩ = some (.int .i64 n.n1) := ah.cell 1
  have h2 : W3.cell? ⟨gh, 2, none⟩ = some (.int .i64 n.n2) := ah.cell 2
  have h8 : W3.cell? ⟨gh, 8, none⟩ = some (.slice nx.g.a nx.g.n nx.g.c) := ah.cell 8
  clear ac ax ap ah
  clear nq
  try go_wp2_with fail
  refine ((unhide DR) W3 B3).mono ?_
  rintro r W4 ⟨rfl, b4⟩
  have B4 := bStep B3 b4
  clear xn xs p1 p2 c1 h0 h1 h2 h8
  obtain ⟨ac, ax, ap, ah⟩ := (unhide HK) W4 B4
  have xn : W4.cell? ⟨gx, 0, none⟩ = some (.int .i64 x.1) := ax.cell 0
  have xs : W4.cell? ⟨gx, 1, none⟩ = some (.slice e.2.1.a e.2.1.n e.2.1.c) := ax.cell 1
  have p1 : W4.cell? ⟨gp, 1, none⟩ = some (.int .i64 p.n1) := ap.cell 1
  have p2 : W4.cell? ⟨gp, 2, none⟩ = some (.int .i64 p.n2) := ap.cell 2
  have c1 : W4.cell? ⟨gc, 1, none⟩ = some (.int .i64 c.2.1) := ac.cell 1
  have h0 : W4.cell? ⟨gh, 0, none⟩ = some (.slice nx.p.a nx.p.n nx.p.c) := ah.cell 0
  have h1 : W4.cell? ⟨gh, 1, none⟩ = some (.int .i64 n.n1) := ah.cell 1
  have h2 : W4.cell? ⟨gh, 2, none⟩ = some (.int .i64 n.n2) := ah.cell 2
  have h8 : W4.cell? ⟨gh, 8, none⟩ = some (.slice nx.g.a nx.g.n nx.g.c) := ah.cell 8
  clear ac ax ap ah
  cases bR
  · have e1 := unhide HE1
    have e2 := unhide HE2
    have e3 := unhide HE3
    go_wp2_with fail
    go_ret
    exact ⟨by rw [unhide HV]; simp [e1, e2, e3], B4⟩
  go_wp2_with fail
  have HAT := hide hat
  by_cases e5 : n.g ∈ x.2.1
  case neg =>
    have q5 : decide (atFrom n.g 0 x.2.1 < 0) = true := by rw [unhide HAT]; simp [e5]
    clear hat
    go_quiet ((go_at_call 55; exact Calls.quiet_of_same ((unhide DA) _ (below_drewN B4 _))))
    have e1 := unhide HE1
    have e2 := unhide HE2
    have e3 := unhide HE3
    go_wp2_with fail
    go_ret
    exact ⟨by rw [unhide HV]; simp [e1, e2, e3, e5], below_drewN B4 _⟩
  have q5 : decide (atFrom n.g 0 x.2.1 < 0) = false := by rw [unhide HAT]; simp [e5]
  have HE5 := hide e5
  clear hat e5
  go_quiet ((go_at_call 55; exact Calls.quiet_of_same ((unhide DA) _ (below_drewN B4 _))))
  go_wp2_with fail
  obtain ⟨W5, eW5⟩ : ∃ W, W4.drewN nq = W := ⟨_, rfl⟩
  have B5 : Below w.heap.size w W5 := by rw [← eW5]; exact below_drewN B4 _
  rw [eW5]
  clear eW5 xn xs p1 p2 c1 h0 h1 h2 h8 nq
  refine ((unhide DM) W5 B5 (unhide HE5)).mono ?_
  rintro r W6 ⟨rfl, b6⟩
  have B6 := bStep B5 b6
  by_cases e6 : kM = 0
  case neg =>
    have q6 : (kM != 0) = true := by simp [e6]
    go_wp2_with fail
    go_ret
    have e1 := unhide HE1
    have e2 := unhide HE2
    have e3 := unhide HE3
    have e5 := unhide HE5
    exact ⟨by rw [unhide HV]; simp [e1, e2, e3, e5, e6], B6⟩
  have q6 : (kM != 0) = false := by simp [e6]
  have HE6 := hide e6
  clear e6
  go_wp2_with fail
  refine ((unhide DV) W6 B6).mono ?_
  rintro r W7 ⟨rfl, b7⟩
  have B7 := bStep B6 b7
  cases bV
  all_goals
    go_wp2_with fail
    go_ret
    have e1 := unhide HE1
    have e2 := unhide HE2
    have e3 := unhide HE3
    have e5 := unhide HE5
    have e6 := unhide HE6
    exact ⟨by rw [unhide HV]; simp [e1, e2, e3, e5, e6], B7⟩

set_option maxHeartbeats 8000000 in
theorem specCheck_any (c : Cf) (e : SnS) (x : Sn) (px : HS) (p : Hd) (nx : HS) (n : Hd) (w : World) (o : StOk w e x px p nx n) :
    Calls Tryz.prog 7 #[.agg (cfvals c), .agg (snvals e x), .agg (hvals px p), .agg (hvals nx n)] w fun r w' => r = .returned (.int .i64 (ckCode c x p n)) ∧ Below w.heap.size w w' := by
  have k0 := (((SBlk.new w (cfvals c) 35).next (.cells (snvals e x) 40)).next (.cells (hvals px p) 42)).next (.cells (hvals nx n) 42)
  have k1 := ((SBlk.new (w.alloc (.cells (cfvals c) 35)) (snvals e x) 40).next (.cells (hvals px p) 42)).next (.cells (hvals nx n) 42)
  have k2 := (SBlk.new ((w.alloc (.cells (cfvals c) 35)).alloc (.cells (snvals e x) 40)) (hvals px p) 42).next (.cells (hvals nx n) 42)
  have k3 := SBlk.new (((w.alloc (.cells (cfvals c) 35)).alloc (.cells (snvals e x) 40)).alloc (.cells (hvals px p) 42)) (hvals nx n) 42
  have bb : Below w.heap.size w ((((w.alloc (.cells (cfvals c) 35)).alloc (.cells (snvals e x) 40)).alloc (.cells (hvals px p) 42)).alloc (.cells (hvals nx n) 42)) := bAl (bAl (bAl (bAl (Below.refl _ _) _) _) _) _
  rw [show (w.alloc (.cells (cfvals c) 35)).heap.size = w.heap.size + 1 by simp] at k1
  rw [show ((w.alloc (.cells (cfvals c) 35)).alloc (.cells (snvals e x) 40)).heap.size = w.heap.size + 1 + 1 by simp] at k2
  rw [show (((w.alloc (.cells (cfvals c) 35)).alloc (.cells (snvals e x) 40)).alloc (.cells (hvals px p) 42)).heap.size = w.heap.size + 1 + 1 + 1 by simp] at k3
  obtain ⟨W0, e0⟩ : ∃ W, (((w.alloc (.cells (cfvals c) 35)).alloc (.cells (snvals e x) 40)).alloc (.cells (hvals px p) 42)).alloc (.cells (hvals nx n) 42) = W := ⟨_, rfl⟩
  rw [e0] at k0 k1 k2 k3 bb
  have oW := o.below bb (Nat.le_refl _)
  have D0 := hide (l8Fault_any w.heap.size c 35 W0 k0)
  have D1 := hide (l7Fault_any (w.heap.size + 1) e x 40 W0 k1 oW.os oW.ms)
  have D2 := hide (fun (W : World) (hb : Below W0.heap.size W0 W) => l5Fault_any (w.heap.size + 1 + 1) px p 42 W (k2.below hb k2.lt) (oW.op.ok.below hb (Nat.le_refl _)) oW.mp)
  have D3 := hide (fun (W : World) (hb : Below W0.heap.size W0 W) => l5Fault_any (w.heap.size + 1 + 1 + 1) nx n 42 W (k3.below hb k3.lt) (oW.on.ok.below hb (Nat.le_refl _)) oW.mn)
  have D4 : Hid (hdFlt p = 0 → ∀ W, Below W0.heap.size W0 W → Calls Tryz.prog 32 #[.agg (hvals px p)] W fun r w' => ∃ d cp, r = .returned (.slice (some ⟨d, 0, none⟩) 32 cp) ∧ BRow w' (some ⟨d, 0, none⟩) 32 (hsBytes p) ∧ Below W.heap.size W w') := fun hp W hb => by
    refine (l5Hash_any px p W (oW.op.ok.below hb (Nat.le_refl _)) (oW.op.nn.below hb (Nat.le_refl _)) hp).mono ?_
    rintro r w' ⟨d, cp, rfl, ho, hb'⟩
    have he : hsBytes p = kcBytes (packL (noK p)) := if_pos hp
    have hr := hs_range oW.op.ok
    rw [he] at hr ⊢
    exact ⟨d, cp, rfl, BRow.own2 ho hr, hb'⟩
  have D5 : Hid (cfFlt c = 0 → snFlt x = 0 → hdFlt p = 0 → hdFlt n = 0 → ∀ W d cp, Below W0.heap.size W0 W → BRow W (some ⟨d, 0, none⟩) 32 (hsBytes p) → Calls Tryz.prog 31 #[.pointer (some ⟨w.heap.size, 0, none⟩), .pointer (some ⟨w.heap.size + 1, 0, none⟩), .pointer (some ⟨w.heap.size + 1 + 1, 0, none⟩), .slice (some ⟨d, 0, none⟩) 32 cp, .pointer (some ⟨w.heap.size + 1 + 1 + 1, 0, none⟩)] W fun r w' => r = .returned (.int .i64 (ckCode c x p n)) ∧ Below W.heap.size W w') := fun hc hx hp hn W d cp hb hr => by
    have q := l9Check_any w.heap.size (w.heap.size + 1) (w.heap.size + 1 + 1) (w.heap.size + 1 + 1 + 1) ⟨some ⟨d, 0, none⟩, 32, cp⟩ (hsBytes p) c e x px p nx n W (k0.below hb k0.lt) (k1.below hb k1.lt) (k2.below hb k2.lt) (k3.below hb k3.lt) (oW.below hb (Nat.le_refl _)) hr hc hx hp hn
    have he : ckCode c x p n = fnz (unl (x.1 == p.n1) 9 :: unl (strEq n.p (hsBytes p)) 4 :: unl (n.n1 == x.1 + 1) 3 :: unl (decide (p.n2 + c.2.1 ≤ n.n2)) 8 :: unl (srB n) 7 :: unl (decide (n.g ∈ x.2.1)) 8 :: (ckMode c x n ++ [unl (vtB c x n) 8])) := by
      unfold ckCode ckFaults ckOrder bhB
      rw [hc, hx, hp, hn]
      rfl
    rw [he]
    exact q
  have HV0 : Hid (cfFlt c ≠ 0 → ckCode c x p n = cfFlt c) := fun h => by unfold ckCode ckFaults; simp [fnz, h]
  have HV1 : Hid (cfFlt c = 0 → snFlt x ≠ 0 → ckCode c x p n = snFlt x) := fun h0 h => by unfold ckCode ckFaults; simp [fnz, h, h0]
  have HV2 : Hid (cfFlt c = 0 → snFlt x = 0 → hdFlt p ≠ 0 → ckCode c x p n = hdFlt p) := fun h0 h1 h => by unfold ckCode ckFaults; simp [fnz, h, h0, h1]
  have HV3 : Hid (cfFlt c = 0 → snFlt x = 0 → hdFlt p = 0 → hdFlt n ≠ 0 → ckCode c x p n = hdFlt n) := fun h0 h1 h2 h => by unfold ckCode ckFaults; simp [fnz, h, h0, h1, h2]
  have HKP := hide (fun (W : World) (hb : Below W0.heap.size W0 W) => hcells (k2.below hb k2.lt))
  have HBB := hide bb
  have E0 := hide e0
  clear e0 k0 k1 k2 k3 bb o oW
  generalize ckCode c x p n = V at D5 HV0 HV1 HV2 HV3 ⊢
  generalize cfFlt c = f0 at D0 D5 HV0 HV1 HV2 HV3
  generalize snFlt x = f1 at D1 D5 HV1 HV2 HV3
  generalize hdFlt n = f3 at D3 D5 HV3
  generalize hdFlt p = f2 at D2 D4 D5 HV2 HV3
  unfold cfvals at E0 ⊢
  unfold snvals at E0 ⊢
  unfold hvals at E0 D4 ⊢
  go_enter Tryz.func7, Tryz.ntmps7
  go_upto_region 1 with fail
  rw [unhide E0]
  clear E0
  go_wp2_with fail
  refine (unhide D0).mono ?_
  rintro r w1 ⟨rfl, rfl⟩
  by_cases h0 : f0 = 0
  case neg =>
    have q0 : (f0 != 0) = true := by simp [h0]
    go_wp2_with fail
    go_ret
    exact ⟨by rw [(unhide HV0) h0]; rfl, unhide HBB⟩
  have q0 : (f0 != 0) = false := by simp [h0]
  have HH0 := hide h0
  clear h0
  go_wp2_with fail
  refine (unhide D1).mono ?_
  rintro r w2 ⟨rfl, n2, rfl⟩
  have B2 : Below w1.heap.size w1 (w1.drewN n2) := below_drewN (Below.refl _ _) n2
  obtain ⟨W2, e2⟩ : ∃ W, w1.drewN n2 = W := ⟨_, rfl⟩
  rw [e2] at B2 ⊢
  clear e2 n2
  by_cases h1 : f1 = 0
  case neg =>
    have q1 : (f1 != 0) = true := by simp [h1]
    go_wp2_with fail
    go_ret
    exact ⟨by rw [(unhide HV1) (unhide HH0) h1]; rfl, (unhide HBB).trans (B2.mono (unhide HBB).size)⟩
  have q1 : (f1 != 0) = false := by simp [h1]
  have HH1 := hide h1
  clear h1
  go_wp2_with fail
  refine ((unhide D2) W2 B2).mono ?_
  rintro r w3 ⟨rfl, n3, rfl⟩
  have B3 := below_drewN B2 n3
  obtain ⟨W3, e3⟩ : ∃ W, W2.drewN n3 = W := ⟨_, rfl⟩
  rw [e3] at B3 ⊢
  clear e3 n3
  by_cases h2 : f2 = 0
  case neg =>
    have q2 : (f2 != 0) = true := by simp [h2]
    go_wp2_with fail
    go_ret
    exact ⟨by rw [(unhide HV2) (unhide HH0) (unhide HH1) h2]; rfl, (unhide HBB).trans (B3.mono (unhide HBB).size)⟩
  have q2 : (f2 != 0) = false := by simp [h2]
  have HH2 := hide h2
  clear h2
  go_wp2_with fail
  refine ((unhide D3) W3 B3).mono ?_
  rintro r w4 ⟨rfl, n4, rfl⟩
  have B4 := below_drewN B3 n4
  obtain ⟨W4, e4⟩ : ∃ W, W3.drewN n4 = W := ⟨_, rfl⟩
  rw [e4] at B4 ⊢
  clear e4 n4
  by_cases h3 : f3 = 0
  case neg =>
    have q3 : (f3 != 0) = true := by simp [h3]
    go_wp2_with fail
    go_ret
    exact ⟨by rw [(unhide HV3) (unhide HH0) (unhide HH1) (unhide HH2) h3]; rfl, (unhide HBB).trans (B4.mono (unhide HBB).size)⟩
  have q3 : (f3 != 0) = false := by simp [h3]
  have HH3 := hide h3
  clear h3
  obtain ⟨x0, x1, x2, x3, x4, x5, x6, x7, x8, x9, x10⟩ := (unhide HKP) W4 B4
  go_wp2_with fail
  refine ((unhide D4) (unhide HH2) W4 B4).mono ?_
  rintro r w5 ⟨d5, c5, rfl, r5, b5⟩
  have B5 := bStep B4 b5
  clear x0 x1 x2 x3 x4 x5 x6 x7 x8 x9 x10
  go_wp2_with fail
  refine ((unhide D5) (unhide HH0) (unhide HH1) (unhide HH2) (unhide HH3) w5 d5 c5 B5 r5).mono ?_
  rintro r w6 ⟨rfl, b6⟩
  go_wp2_with fail
  go_ret
  exact ⟨rfl, (unhide HBB).trans ((bStep B5 b6).mono (unhide HBB).size)⟩

end Go.Proofs.YtnmbdannipebnaaGreatDoor

/- What is proved here: how arguments that are recents, votes and snapshots read. -/
namespace Go.Proofs.YtnmbdannipebnaaGreatDoor
open Go.RowKit
set_option linter.unusedVariables false
set_option maxRecDepth 100000

theorem opensRecent {H : Type} {enc : TypeId × Value → H} {w : World} {sp : Nat → Bool} {held : Bool} : Opens enc Tryz.prog w sp held (rcK) 99 := by
  intro fuel cs y hl h
  have hl' : cs.length = 2 := hl
  have f0 := opens_field (K := intK) Tryz.underlying99 h 0 _ rfl rfl rfl (by kernel_rfl) (opens_int Tryz.underlying2) (by show 0 + 1 ≤ cs.length; omega)
  have f1 := opens_field (K := bytesK) Tryz.underlying99 h 1 _ rfl rfl rfl (by kernel_rfl) (opens_bytes Tryz.underlying29 Tryz.underlying5 (by kernel_rfl)) (by show 1 + 1 ≤ cs.length; omega)
  match cs, hl' with
  | [c0, c1], _ =>
    replace f0 : ∃ e x, [c0] = (intK).vals e x ∧ (intK).Ok w e x := f0
    obtain ⟨e0, x0, q0, r0⟩ := f0
    replace f1 : ∃ e x, [c1] = (bytesK).vals e x ∧ (bytesK).Ok w e x := f1
    obtain ⟨e1, x1, q1, r1⟩ := f1
    refine ⟨(e0, e1), (x0, x1), ?_, r0, r1⟩
    show [c0, c1] = (intK).vals e0 x0 ++ ((bytesK).vals e1 x1)
    rw [← q0, ← q1]
    rfl

theorem opensVote {H : Type} {enc : TypeId × Value → H} {w : World} {sp : Nat → Bool} {held : Bool} : Opens enc Tryz.prog w sp held (vtK) 102 := by
  intro fuel cs y hl h
  have hl' : cs.length = 3 := hl
  have f0 := opens_field (K := bytesK) Tryz.underlying102 h 0 _ rfl rfl rfl (by kernel_rfl) (opens_bytes Tryz.underlying29 Tryz.underlying5 (by kernel_rfl)) (by show 0 + 1 ≤ cs.length; omega)
  have f1 := opens_field (K := bytesK) Tryz.underlying102 h 1 _ rfl rfl rfl (by kernel_rfl) (opens_bytes Tryz.underlying29 Tryz.underlying5 (by kernel_rfl)) (by show 1 + 1 ≤ cs.length; omega)
  have f2 := opens_field (K := boolK) Tryz.underlying102 h 2 _ rfl rfl rfl (by kernel_rfl) (opens_bool Tryz.underlying4) (by show 2 + 1 ≤ cs.length; omega)
  match cs, hl' with
  | [c0, c1, c2], _ =>
    replace f0 : ∃ e x, [c0] = (bytesK).vals e x ∧ (bytesK).Ok w e x := f0
    obtain ⟨e0, x0, q0, r0⟩ := f0
    replace f1 : ∃ e x, [c1] = (bytesK).vals e x ∧ (bytesK).Ok w e x := f1
    obtain ⟨e1, x1, q1, r1⟩ := f1
    replace f2 : ∃ e x, [c2] = (boolK).vals e x ∧ (boolK).Ok w e x := f2
    obtain ⟨e2, x2, q2, r2⟩ := f2
    refine ⟨(e0, e1, e2), (x0, x1, x2), ?_, r0, r1, r2⟩
    show [c0, c1, c2] = (bytesK).vals e0 x0 ++ ((bytesK).vals e1 x1 ++ ((boolK).vals e2 x2))
    rw [← q0, ← q1, ← q2]
    rfl

theorem opensSnap {H : Type} {enc : TypeId × Value → H} {w : World} {sp : Nat → Bool} {held : Bool} : Opens enc Tryz.prog w sp held (SNK) 28 := by
  intro fuel cs y hl h
  have hl' : cs.length = 4 := hl
  have f0 := opens_field (K := intK) Tryz.underlying28 h 0 _ rfl rfl rfl (by kernel_rfl) (opens_int Tryz.underlying2) (by show 0 + 1 ≤ cs.length; omega)
  have f1 := opens_field (K := rowK bytesK 29) Tryz.underlying28 h 1 _ rfl rfl rfl (by kernel_rfl) (opens_row Tryz.underlying24 (by kernel_rfl) (by decide) (opens_bytes Tryz.underlying29 Tryz.underlying5 (by kernel_rfl))) (by show 1 + 1 ≤ cs.length; omega)
  have f2 := opens_field (K := rowK rcK 109) Tryz.underlying28 h 2 _ rfl rfl rfl (by kernel_rfl) (opens_row Tryz.underlying25 (by kernel_rfl) (by decide) opensRecent) (by show 2 + 1 ≤ cs.length; omega)
  have f3 := opens_field (K := rowK vtK 111) Tryz.underlying28 h 3 _ rfl rfl rfl (by kernel_rfl) (opens_row Tryz.underlying26 (by kernel_rfl) (by decide) opensVote) (by show 3 + 1 ≤ cs.length; omega)
  match cs, hl' with
  | [c0, c1, c2, c3], _ =>
    replace f0 : ∃ e x, [c0] = (intK).vals e x ∧ (intK).Ok w e x := f0
    obtain ⟨e0, x0, q0, r0⟩ := f0
    replace f1 : ∃ e x, [c1] = (rowK bytesK 29).vals e x ∧ (rowK bytesK 29).Ok w e x := f1
    obtain ⟨e1, x1, q1, r1⟩ := f1
    replace f2 : ∃ e x, [c2] = (rowK rcK 109).vals e x ∧ (rowK rcK 109).Ok w e x := f2
    obtain ⟨e2, x2, q2, r2⟩ := f2
    replace f3 : ∃ e x, [c3] = (rowK vtK 111).vals e x ∧ (rowK vtK 111).Ok w e x := f3
    obtain ⟨e3, x3, q3, r3⟩ := f3
    refine ⟨(e0, e1, e2, e3), (x0, x1, x2, x3), ?_, r0, r1, r2, r3⟩
    show [c0, c1, c2, c3] = (intK).vals e0 x0 ++ ((rowK bytesK 29).vals e1 x1 ++ ((rowK rcK 109).vals e2 x2 ++ ((rowK vtK 111).vals e3 x3)))
    rw [← q0, ← q1, ← q2, ← q3]
    rfl

theorem open_snap {H : Type} {enc : TypeId × Value → H} {w : World} {sp : Nat → Bool} {held : Bool} {v : Value} {d : DataW H} {ps : List MemPlace} (hv : ∃ cs, v = .agg cs ∧ cs.size = Tryz.prog.cellsOf 28) (h : DataW.Trod enc Tryz.prog w 0 sp held 28 v d ps) :
    ∃ e x, v = .agg (snvals e x) ∧ SNK.Ok w e x := opens_arg opensSnap hv (by kernel_rfl) h

end Go.Proofs.YtnmbdannipebnaaGreatDoor
