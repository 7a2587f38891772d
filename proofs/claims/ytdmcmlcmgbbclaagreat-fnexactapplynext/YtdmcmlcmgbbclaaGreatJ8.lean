/- What is proved here: what the model's l5Signers answers: the first fault of a list of signers. -/
import Derived.Test.YtdmcmlcmgbbclaaGreatJ7
import Derived.WalkKit
import Derived.WalkSmall
import Derived.Deep.RegionWith
import Derived.BigQuiet
import Derived.Deep.QuietTactic
import Derived.WalkSpells
import Derived.Test.YtdmcmlcmgbbclaaGreatJ4
import Derived.Test.YtdmcmlcmgbbclaaGreatChecked
import Derived.Test.YtdmcmlcmgbbclaaGreatJ1
import Derived.Laws.AppendOwnNone
import Derived.WalkLawsBesides
import Derived.KernelRfl
import Derived.Test.YtdmcmlcmgbbclaaGreatJ3
import Derived.Maps.AppendAt
import Derived.Deep.RegionLaw
import Derived.Deep.RegionHeld3
import Derived.Deep.AppendLies
import Derived.Deep.DeepCutAuto
import Derived.Deep.CutBlock
namespace Go.Proofs.YtdmcmlcmgbbclaaGreat
set_option linter.unusedVariables false
set_option linter.unusedSimpArgs false
open Go.RowKit
set_option maxRecDepth 100000

set_option maxHeartbeats 2000000 in
theorem l5Signers_any (a : Option Addr) (len cap : Nat) (zss : List (List Int)) (w : World) (h : BsRow w a len zss) (hl : len ≤ 1048576) :
    Calls Tryz.prog 55 #[.slice a len cap] w fun e w' => e = .returned (.int .i64 (sgFlt zss)) ∧ ∃ n, w' = w.drewN n := by
 have hil := h.1
 by_cases h2 : 7 < len
 · have HE : Hid (sgFlt zss = 2) := by show _ = _; unfold sgFlt; rw [if_pos (by rw [hil]; exact h2)]
   have hd : decide ((7 : Int) < (len : Int)) = true := decide_eq_true (by omega)
   clear h hil
   go_enter Tryz.func55, Tryz.ntmps55
   go_wp2_with fail
   go_ret
   exact ⟨ret_int (unhide HE).symm, 0, rfl⟩
 · have d2 : decide ((7 : Int) < (len : Int)) = false := decide_eq_false (by omega)
   have HE : Hid (sgFlt zss = sgFrom zss 0 zss) := by show _ = _; unfold sgFlt; rw [if_neg (by omega)]
   rcases Nat.eq_zero_or_pos len with h0 | hp
   · subst h0
     have hn : zss = [] := List.length_eq_zero_iff.1 hil
     subst hn
     clear h
     go_enter Tryz.func55, Tryz.ntmps55
     go_wp2_with fail
     refine wp_loop_rounds 1 ?_
     rw [rounds_succ]
     go_wp2_with fail
     go_ret
     exact ⟨ret_int (by rw [unhide HE]; rfl), 0, rfl⟩
   · obtain ⟨b, off, rfl, hb, hc⟩ := h.at hp
     have HC := hide hc
     have HL := hide hil
     clear h hc hil
     go_enter Tryz.func55, Tryz.ntmps55
     go_wp2_with fail
     go_loopw [3] (fun i wr => ∃ k n : Nat, k ≤ len ∧ i = .int .i64 k ∧ sgFrom zss 0 zss = sgFrom zss k (zss.drop k) ∧ wr = w.drewN n) (fun i _ => len - (intOf i).toNat)
     case atStart => exact ⟨0, 0, Nat.zero_le _, rfl, by simp, rfl⟩
     case round =>
      obtain ⟨k, n, hk, rfl, hpre, hw⟩ := hrel
      have hbw : Below w.heap.size w wr := by rw [hw]; exact below_drewN (Below.refl _ _) n
      have HW := hide hw
      clear hw
      by_cases hlt : k < len
      · obtain ⟨z, hit⟩ : ∃ z, zss[k]? = some z := ⟨_, List.getElem?_eq_getElem (by rw [unhide HL]; exact hlt)⟩
        have hst := sgFrom_step zss k z hit
        rw [← hpre] at hst
        obtain ⟨s1, n1, d1, p0, r1⟩ := ((unhide HC) k z hit).below hbw (Nat.le_refl _)
        have hzl : z.length = n1 := r1.1
        have HS := hide hst
        have i1 : (0 : Int) ≤ (k : Int) := by omega
        have i2 : (k : Int) < (len : Int) := by omega
        by_cases h4 : n1 = 4
        · have d4 : (((n1 : Nat) : Int) != 4) = false := by simp [h4]
          by_cases k0 : k = 0
          · have e : sgBad zss k z = false := by unfold sgBad; simp [hzl, h4, k0]
            rw [e, if_neg (by simp)] at HS
            have dk : decide ((0 : Int) < (k : Int)) = false := decide_eq_false (by omega)
            have dk' : decide (0 < k) = false := decide_eq_false (by omega)
            clear r1 hst hpre hit hzl e k0 h4 hbw
            go_wp2_with fail
            go_quiet (fail)
            all_goals
             go_wp2_with fail
             go_roundw
             case rel => exact ⟨k + 1, _, by omega, by go_num, unhide HS, by rw [unhide HW]; first | rfl | exact World.drewN_drewN ..⟩
             case measure => simp [intOf]; omega
          · obtain ⟨j, hj⟩ : ∃ j : Nat, k - 1 = j := ⟨_, rfl⟩
            obtain ⟨y, hiy⟩ : ∃ y, zss[j]? = some y := ⟨_, List.getElem?_eq_getElem (by rw [unhide HL]; omega)⟩
            obtain ⟨s2, n2, d2', q0, r2⟩ := ((unhide HC) j y hiy).below hbw (Nat.le_refl _)
            have hgd : zss.getD (k - 1) [] = y := by rw [hj, List.getD_eq_getElem?_getD, hiy]; rfl
            have e : sgBad zss k z = !aheadB y z := by unfold sgBad; rw [hgd, hzl, h4]; simp; omega
            rw [e] at HS
            have dk : decide ((0 : Int) < (k : Int)) = true := decide_eq_true (by omega)
            have dk' : decide (0 < k) = true := decide_eq_true (by omega)
            have j1 : (0 : Int) ≤ (j : Int) := by omega
            have j2 : (j : Int) < (len : Int) := by omega
            have hwr : IntKind.i64.wrap ((k : Int) - 1) = (j : Int) := by rw [IntKind.wrap_i64]; omega
            have HA := hide (fun (m : Nat) => l1Ahead_any s2 s1 n2 d2' n1 d1 y z (wr.drewN m) (r2.below (B := wr.heap.size) (below_drewN (Below.refl _ _) m) (Nat.le_refl _)) (r1.below (B := wr.heap.size) (below_drewN (Below.refl _ _) m) (Nat.le_refl _)))
            clear r1 r2 hst hpre hit hiy hzl hgd e k0 h4 hj hbw
            generalize aheadB y z = sb at HA HS
            cases sb
            · go_wp2_with fail
              go_quiet ((go_at_call 88; exact Calls.quiet_of_same ((unhide HA) _)))
              all_goals
               go_wp2_with fail
               go_ret
               exact ⟨ret_int (by rw [unhide HE, unhide HS]; rfl), _, by rw [unhide HW]; first | rfl | exact World.drewN_drewN ..⟩
            · go_wp2_with fail
              go_quiet ((go_at_call 88; exact Calls.quiet_of_same ((unhide HA) _)))
              all_goals
               go_wp2_with fail
               go_roundw
               case rel => exact ⟨k + 1, _, by omega, by go_num, by rw [unhide HS]; rfl, by rw [unhide HW]; first | rfl | exact World.drewN_drewN ..⟩
               case measure => simp [intOf]; omega
        · have d4 : (((n1 : Nat) : Int) != 4) = true := by simp; omega
          have e : sgBad zss k z = true := by unfold sgBad; simp [hzl, h4]
          rw [e, if_pos rfl] at HS
          clear r1 hst hpre hit hzl e h4 hbw
          go_wp2_with fail
          go_quiet (fail)
          all_goals
           go_wp2_with fail
           go_ret
           exact ⟨ret_int (by rw [unhide HE, unhide HS]), _, by rw [unhide HW]; first | rfl | exact World.drewN_drewN ..⟩
      · obtain rfl : k = len := by omega
        have e := sgFrom_end zss k (by rw [unhide HL]; exact Nat.le_refl _)
        rw [e] at hpre
        have HP := hide hpre
        clear e hpre
        go_wp2_with fail
        go_ret
        exact ⟨ret_int (by rw [unhide HE, unhide HP]), n, unhide HW⟩

set_option maxRecDepth 100000

set_option maxRecDepth 100000

set_option maxHeartbeats 1000000 in
theorem someSigners_any (s : Sl) (zss : List (List Int)) (w : World) (h : RowOk bytesK w s zss) (hl : zss.length ≤ 1048576) :
    Calls Tryz.prog 95 #[.slice s.a s.n s.c] w fun e w' => e = .returned (.int .i64 (sgSome zss)) ∧ w' = w := by
 have hn : s.n = zss.length := h.len
 have HI := hide (implSigners_any s.a s.n s.c zss w (bs_of_row h) (by omega))
 by_cases h0 : zss.length = 0
 · have HE : Hid (sgSome zss = 4) := if_pos h0
   have hz : (((s.n : Nat) : Int) == 0) = true := by rw [hn, h0]; rfl
   clear hn h h0 HI
   go_enter Tryz.func95, Tryz.ntmps95
   go_wp2_with fail
   go_ret
   exact ⟨ret_int (unhide HE).symm, rfl⟩
 · have HE : Hid (sgSome zss = sgFlt zss) := if_neg h0
   have hz : (((s.n : Nat) : Int) == 0) = false := by rw [beq_eq_false_iff_ne]; omega
   clear hn h h0
   go_enter Tryz.func95, Tryz.ntmps95
   go_wp2_with fail
   refine (unhide HI).mono ?_
   rintro e w1 ⟨rfl, rfl⟩
   go_wp2_with fail
   go_ret
   exact ⟨ret_int (unhide HE).symm, rfl⟩

set_option maxHeartbeats 1000000 in
theorem l7List_any (s : Sl) (zss : List (List Int)) (w : World) (h : RowOk bytesK w s zss) (hl : zss.length ≤ 1048576) :
    Calls Tryz.prog 52 #[.slice s.a s.n s.c] w fun e w' => e = .returned (.int .i64 (sgSome zss)) ∧ ∃ n, w' = w.drewN n := by
 have hn : s.n = zss.length := h.len
 have HI := hide (l5Signers_any s.a s.n s.c zss w (bs_of_row h) (by omega))
 by_cases h0 : zss.length = 0
 · have HE : Hid (sgSome zss = 4) := if_pos h0
   have hz : (((s.n : Nat) : Int) == 0) = true := by rw [hn, h0]; rfl
   clear hn h h0 HI
   go_enter Tryz.func52, Tryz.ntmps52
   go_wp2_with fail
   go_ret
   exact ⟨ret_int (unhide HE).symm, 0, rfl⟩
 · have HE : Hid (sgSome zss = sgFlt zss) := if_neg h0
   have hz : (((s.n : Nat) : Int) == 0) = false := by rw [beq_eq_false_iff_ne]; omega
   clear hn h h0
   go_enter Tryz.func52, Tryz.ntmps52
   go_wp2_with fail
   refine (unhide HI).mono ?_
   rintro e w1 ⟨rfl, n, rfl⟩
   go_wp2_with fail
   go_ret
   exact ⟨ret_int (unhide HE).symm, n, rfl⟩

set_option maxRecDepth 100000

theorem CB.set {B j : Nat} {d : Nat → Nat} {w : World} {s : Sl} {z : List Int} {p : Addr} {v : Value} (h : CB w B d j s z) (hp : p.block < B) : CB (w.setCell p v) B d j s z := ⟨h.len, h.rng, ownsRow_setCell_below h.own hp v, h.col⟩

theorem CS.set {B r c : Nat} {d : Nat → Nat} {w : World} {s : Sl} {zss : List (List Int)} {p : Addr} {v : Value} (h : CS w B d r c s zss) (hp : p.block < B) : CS (w.setCell p v) B d r c s zss := by
 obtain ⟨h1, es, h2, h3, h4, h5⟩ := h
 exact ⟨h1, es, h2, ownsRow_setCell_below h3 hp v, h4, fun i e z he hz => (h5 i e z he hz).set hp⟩

theorem CH.set {B : Nat} {d : Nat → Nat} {w : World} {x : HS} {h : Hd} {p : Addr} {v : Value} (o : CH w B d x h) (hp : p.block < B) : CH (w.setCell p v) B d x h :=
 ⟨o.p.set hp, o.t.set hp, o.s.set hp, o.r.set hp, o.g.set hp, o.e.set hp, o.k.set hp⟩

theorem CB.recol2 {B j : Nat} {d d' : Nat → Nat} {w : World} {s : Sl} {z : List Int} (h : CB w B d j s z) (hd : ∀ g, B ≤ g → d' g = d g) : CB w B d' j s z := ⟨h.len, h.rng, h.own, fun g hg => by rw [hd g (own_lt h.own g hg).1]; exact h.col g hg⟩

theorem CS.recol2 {B r c : Nat} {d d' : Nat → Nat} {w : World} {s : Sl} {zss : List (List Int)} (h : CS w B d r c s zss) (hd : ∀ g, B ≤ g → d' g = d g) : CS w B d' r c s zss := by
 obtain ⟨h1, es, h2, h3, h4, h5⟩ := h
 exact ⟨h1, es, h2, h3, fun g hg => by rw [hd g (own_lt h3 g hg).1]; exact h4 g hg, fun i e z he hz => (h5 i e z he hz).recol2 hd⟩

theorem CH.recol2 {B : Nat} {d d' : Nat → Nat} {w : World} {x : HS} {h : Hd} (o : CH w B d x h) (hd : ∀ g, B ≤ g → g < w.heap.size → d' g = d g) : CH w B d' x h := by
 have key : ∀ {j : Nat} {s : Sl} {z : List Int}, CB w B d j s z → CB w B d' j s z := fun h => ⟨h.len, h.rng, h.own, fun g hg => by rw [hd g (own_lt h.own g hg).1 (own_lt h.own g hg).2]; exact h.col g hg⟩
 have keyS : ∀ {r c : Nat} {s : Sl} {zss : List (List Int)}, CS w B d r c s zss → CS w B d' r c s zss := fun h => by
  obtain ⟨h1, es, h2, h3, h4, h5⟩ := h
  exact ⟨h1, es, h2, h3, fun g hg => by rw [hd g (own_lt h3 g hg).1 (own_lt h3 g hg).2]; exact h4 g hg, fun i e z he hz => key (h5 i e z he hz)⟩
 exact ⟨key o.p, key o.t, keyS o.s, key o.r, key o.g, key o.e, keyS o.k⟩

theorem own_set9 {B : Nat} {w : World} {e : TypeId} {size n : Nat} {v : Value} {xs : List Value} {p : Addr} {u : Value} (h : w.ownsRow B e size v n xs) (hne : ∀ g, v.ownBlock = some g → g ≠ p.block) : (w.setCell p u).ownsRow B e size v n xs := by
 refine ⟨h.1, ?_⟩
 rcases h.2 with h' | ⟨g, cap, cur, h1, h2, h3, h4⟩
 · exact .inl h'
 · exact .inr ⟨g, cap, cur, h1, h2, (heap_setCell_other w p g u (hne g (by rw [h1]; rfl))).trans h3, h4⟩

theorem CB.set9 {B j : Nat} {d : Nat → Nat} {w : World} {s : Sl} {z : List Int} {p : Addr} {v : Value} (h : CB w B d j s z) (hp : d p.block ≠ j) : CB (w.setCell p v) B d j s z := ⟨h.len, h.rng, own_set9 h.own (fun g hg e => hp (by rw [← e]; exact h.col g hg)), h.col⟩

theorem CS.set9 {B r c : Nat} {d : Nat → Nat} {w : World} {s : Sl} {zss : List (List Int)} {p : Addr} {v : Value} (h : CS w B d r c s zss) (hr : d p.block ≠ r) (hc : ∀ i, d p.block ≠ c + 3 * i) : CS (w.setCell p v) B d r c s zss := by
 obtain ⟨h1, es, h2, h3, h4, h5⟩ := h
 exact ⟨h1, es, h2, own_set9 h3 (fun g hg e => hr (by rw [← e]; exact h4 g hg)), h4, fun i e z he hz => (h5 i e z he hz).set9 (hc i)⟩

theorem CH.set9 {B : Nat} {d : Nat → Nat} {w : World} {x : HS} {h : Hd} {p : Addr} {v : Value} (o : CH w B d x h) (hp : d p.block = 9) : CH (w.setCell p v) B d x h :=
 ⟨o.p.set9 (by omega), o.t.set9 (by omega), o.s.set9 (by omega) (fun i => by omega), o.r.set9 (by omega), o.g.set9 (by omega), o.e.set9 (by omega), o.k.set9 (by omega) (fun i => by omega)⟩

theorem CS.mkSnoc {B r c : Nat} {d : Nat → Nat} {w w2 : World} {s : Sl} {zss : List (List Int)} {es : List Sl} {e : Sl} {z : List Int} {a' : Option Addr} {c' : Nat} (hr : ∀ i, r ≠ c + 3 * i) (hB : B ≤ w.heap.size) (h1 : s.n = zss.length) (h2 : es.length = zss.length)
    (h3 : w.ownsRow B 29 1 (.slice s.a s.n s.c) s.n (es.map Sl.v)) (h4 : ∀ g, (Value.slice s.a s.n s.c).ownBlock = some g → d g = r) (h5 : ∀ (i : Nat) (e : Sl) (z : List Int), es[i]? = some e → zss[i]? = some z → CB w B d (c + 3 * i) e z)
    (he : CB w B d (c + 3 * zss.length) e z) (o2 : w2.ownsRow B 29 1 (.slice a' (s.n + 1) c') (s.n + 1) (es.map Sl.v ++ [e.v])) (hg : w.grownBy w2 (Value.slice s.a s.n s.c).ownBlock)
    (hblk : (Value.slice a' (s.n + 1) c').ownBlock = (Value.slice s.a s.n s.c).ownBlock ∨ (Value.slice a' (s.n + 1) c').ownBlock = some w.heap.size) :
    CS w2 B (fun g => if w.heap.size ≤ g then r else d g) r c ⟨a', s.n + 1, c'⟩ (zss ++ [z]) ∧ OnlyD B (fun g => if w.heap.size ≤ g then r else d g) (fun q => q = r) w w2 := by
 have hdg : ∀ q, q < w.heap.size → (if w.heap.size ≤ q then r else d q) = d q := fun q hq => if_neg (by omega)
 have on : OnlyD B (fun q => if w.heap.size ≤ q then r else d q) (fun q => q = r) w w2 := OnlyD.grown hg hB (fun q e => ⟨(own_lt h3 q e).1, by rw [hdg q (own_lt h3 q e).2]; exact h4 q e⟩)
 refine ⟨⟨by simp [h1], es ++ [e], by simp [h2], by rw [List.map_append]; exact o2, fun g hgq => ?_, fun i e' z' he' hz' => ?_⟩, on⟩
 · rcases hblk with hb | hb
   · have hgq' : (Value.slice s.a s.n s.c).ownBlock = some g := by rw [← hb]; exact hgq
     show (if w.heap.size ≤ g then r else d g) = r
     rw [hdg g (own_lt h3 g hgq').2]; exact h4 g hgq'
   · have hgq' : some w.heap.size = some g := by rw [← hb]; exact hgq
     obtain rfl := Option.some.inj hgq'
     exact if_pos (Nat.le_refl _)
 · by_cases hi : i < zss.length
   · rw [List.getElem?_append_left (by omega)] at he' hz'
     exact ((h5 i e' z' he' hz').recol hdg).only on (fun q => hr i q.symm)
   · have hi2 : i = zss.length := by
       have := (List.getElem?_eq_some_iff.1 hz').1
       simp at this
       omega
     subst hi2
     rw [List.getElem?_append_right (by omega), h2, Nat.sub_self] at he'
     rw [List.getElem?_append_right (Nat.le_refl _), Nat.sub_self] at hz'
     simp at he' hz'
     subst he' hz'
     exact (he.recol hdg).only on (fun q => hr _ q.symm)

set_option maxRecDepth 100000

set_option maxHeartbeats 1000000 in
theorem copy_any (a : Option Addr) (n cap : Nat) (zs : List Int) (w : World) (h : BRow w a n zs) (hcap : a = none → cap = 0) (hn : n ≤ 1048576) :
    Calls Tryz.prog 59 #[.slice a n cap] w fun e w' => ∃ (a' : Option Addr) (cap' : Nat), e = .returned (.slice a' n cap') ∧ w'.ownsRow w.heap.size 5 1 (.slice a' n cap') n (zs.map (Value.int .u8)) ∧ Below w.heap.size w w' := by
 obtain ⟨i0, hi, hz0, hz1, hz2⟩ := info_parts info5
 have hown0 : (w.alloc (.cells #[] 5)).ownsRow w.heap.size 5 1 (.slice (some ⟨w.heap.size, 0, none⟩) 0 0) 0 [] := World.ownsRow_lit w #[] 0 (Nat.le_refl _) (by unfold maxLen; omega) rfl
 have hb := below_alloc w (.cells #[] 5)
 have hr := h.below hb (Nat.le_refl _)
 cases a with
 | none =>
  obtain rfl : n = 0 := h.2.2.1 rfl
  obtain rfl : zs = [] := List.length_eq_zero_iff.1 h.1
  obtain rfl : cap = 0 := hcap rfl
  have HB := hide hb
  clear h hr hb
  go_enter Tryz.func59, Tryz.ntmps59
  go_wp2_with (at_builtin; refine wpList_append_own_none rfl _ _ 29 rfl w.heap.size 5 i0 1 Tryz.underlying29 hi _ _ _ rfl hown0 rfl ?_)
  go_ret
  exact ⟨_, _, rfl, hown0, unhide HB⟩
 | some x =>
  have HR := hide hr
  have hzl := h.1
  clear h hr
  go_enter Tryz.func59, Tryz.ntmps59
  go_wp2_with (at_builtin; refine wpList_append_own _ rfl _ _ 29 rfl w.heap.size 5 i0 (.int .u8 0) 1 1 Tryz.underlying29 hi hz0 hz1 hz2 rfl (by decide) _ _ _ rfl hown0 x n cap (zs.map (Value.int .u8)) rfl ?c0 ?c1 ?c2 ?c3 ?c4 ?c5 ?_)
  case c0 => simp [hzl]
  case c1 =>
   intro j u hj
   have hjl : j < zs.length := by have := (List.getElem?_eq_some_iff.1 hj).1; simpa using this
   rw [(unhide HR).2.2.2 x rfl j (by omega)]
   rw [List.getElem?_map, List.getElem?_eq_getElem hjl] at hj
   rw [getD_at _ _ hjl]
   exact hj
  case c2 => intro u hu; obtain ⟨z, _, rfl⟩ := List.mem_map.1 hu; rfl
  case c3 => unfold maxLen; omega
  case c4 => omega
  case c5 => simp
  intro v' w2 hown2 hgrow _
  obtain ⟨a2, cap2, hvv⟩ := own_shape hown2
  have hb2 : Below w.heap.size w w2 := hb.grown hgrow (by simp) (fun g e => by simp [Value.ownBlock] at e; omega)
  rw [hvv] at hown2
  rw [hvv]
  have HO := hide hown2
  have HB := hide hb2
  clear hown2 hb2 hgrow hvv hown0 hb
  go_wp2_with fail
  go_ret
  refine ⟨a2, cap2, ?_, ?_, unhide HB⟩
  · simp
  · simpa using unhide HO

set_option maxRecDepth 100000

theorem wpList_append_brow {P : Program} (w : World) {ops : Array Oper} {rest : List Oper} {o : Oper} {a : Act} {Q : Exit → Act → World → Prop} (hgd : o.guard = none) (s x : Operand) (t : TypeId)
    (ho : o.op = .call { callee := .builtin .append, args := #[s, x], argTypes := #[t, t] }) (base : Nat) (i : TypeInfo) (ht : P.underlying t = some (.slice 5)) (hi : P.info? 5 = some i) (hz : i.zero = some (.int .u8 0)) (hsize : i.size = 1) (hby : i.bytes = 1)
    (v : Value) (n : Nat) (xs : List Int) (hs : a.eval s = v) (hown : w.ownsRow base 5 1 v n (xs.map (Value.int .u8))) (ad : Option Addr) (m c : Nat) (zs : List Int) (hx : a.eval x = .slice ad m c) (hr : BRow w ad m zs) (hc : ad = none → c = 0)
    (h63 : n + m ≤ 1099511627776) (hbase : base ≤ w.heap.size)
    (h : ∀ a' c' w', w'.ownsRow base 5 1 (.slice a' (n + m) c') (n + m) ((xs ++ zs).map (Value.int .u8)) → w.grownBy w' v.ownBlock → wpList P ops Q rest (a.put o.dst (.slice a' (n + m) c')) w') : wpList P ops Q (o :: rest) a w := by
 cases ad with
 | none =>
  obtain rfl : m = 0 := hr.2.2.1 rfl
  obtain rfl : zs = [] := List.length_eq_zero_iff.1 hr.1
  obtain rfl : c = 0 := hc rfl
  refine wpList_append_own_none hgd s x t ho base 5 i 1 ht hi v n _ hs hown hx ?_
  obtain ⟨a', c', hv⟩ := own_shape hown
  have := h a' c' w (by rw [Nat.add_zero, List.append_nil, ← hv]; exact hown) (grownBy_refl w _)
  rw [Nat.add_zero, ← hv] at this
  exact this
 | some ad =>
  refine wpList_append_own w hgd s x t ho base 5 i (.int .u8 0) 1 1 ht hi hz hsize hby rfl (by decide) v n _ hs hown ad m c (zs.map (Value.int .u8)) hx (by simp [hr.1]) ?_ ?_ ?_ ?_ hbase ?_
  · intro j u hj
    have hjl : j < zs.length := by have := (List.getElem?_eq_some_iff.1 hj).1; simpa using this
    rw [hr.2.2.2 ad rfl j (by rw [← hr.1]; exact hjl)]
    rw [List.getElem?_map, List.getElem?_eq_getElem hjl] at hj
    rw [getD_at _ _ hjl]
    exact hj
  · intro u hu; obtain ⟨z, _, rfl⟩ := List.mem_map.1 hu; rfl
  · unfold maxLen; omega
  · omega
  · intro v' w' hown' hg _
    obtain ⟨a', c', hv⟩ := own_shape hown'
    rw [hv] at hown' ⊢
    exact h a' c' w' (by rw [List.map_append]; exact hown') hg

set_option maxRecDepth 100000

theorem one_at (w : World) (x : Value) (t : TypeId) : ∀ (j : Nat) (u : Value), [x][j]? = some u → (w.alloc (.cells #[x] t)).cell? ((⟨w.heap.size, 0, none⟩ : Addr).add j) = some u := by
 intro j u hj
 rw [add_none, Nat.zero_add, World.cell?_alloc_new]
 match j, hj with
 | 0, hj => simpa using hj

set_option maxHeartbeats 4000000 in
theorem l5Lists_any (r c : Nat) (hr : ∀ i, r ≠ c + 3 * i) (a : Option Addr) (len cap : Nat) (zss : List (List Int)) (w : World) (h : BsRow w a len zss) (hn : BsNil w a len) (hl : len ≤ 1048576) (hz : ∀ z ∈ zss, z.length ≤ 1048576) :
    Calls Tryz.prog 89 #[.slice a len cap] w fun e w' => ∃ (s : Sl) (d : Nat → Nat), e = .returned (.slice s.a s.n s.c) ∧ CS w' w.heap.size d r c s zss ∧ Below w.heap.size w w' := by
 obtain ⟨i0, hi, hz0, hz1, hz2⟩ := info_parts infoSB
 have hil := h.1
 have o0 : (w.alloc (.cells #[] 29)).ownsRow w.heap.size 29 1 (.slice (some ⟨w.heap.size, 0, none⟩) 0 0) 0 (([] : List Sl).map Sl.v) := World.ownsRow_lit w #[] 0 (Nat.le_refl _) (by unfold maxLen; omega) rfl
 have HC0 : Hid (CS (w.alloc (.cells #[] 29)) w.heap.size (fun _ => r) r c ⟨some ⟨w.heap.size, 0, none⟩, 0, 0⟩ []) := ⟨rfl, [], rfl, o0, (fun _ _ => rfl), fun i e z he => by simp at he⟩
 have HROW := hide (fun (W : World) (hb : Below w.heap.size w W) => And.intro (h.below hb (Nat.le_refl _)) (hn.below hb (Nat.le_refl _)))
 have HBY := hide h.bytes
 have HZ := hide hz
 have HL := hide hil
 have HR := hide hr
 clear h hn hil o0 hz hr
 go_enter Tryz.func89, Tryz.ntmps89
 go_wp2_with fail
 go_loopw [3, 4] (fun s i wr => ∃ (k : Nat) (t : Sl) (d : Nat → Nat), k ≤ len ∧ i = .int .i64 k ∧ s = .slice t.a t.n t.c ∧ CS wr w.heap.size d r c t (zss.take k) ∧ Below w.heap.size w wr) (fun _ i _ => len - (intOf i).toNat)
 case atStart => exact ⟨0, ⟨some ⟨w.heap.size, 0, none⟩, 0, 0⟩, fun _ => r, Nat.zero_le _, rfl, rfl, unhide HC0, below_alloc w _⟩
 case round =>
  obtain ⟨k, t, d, hk, rfl, rfl, hcs, hbr⟩ := hrel
  clear HC0
  by_cases hlt : k < len
  · obtain ⟨z, hit⟩ : ∃ z, zss[k]? = some z := ⟨_, List.getElem?_eq_getElem (by rw [unhide HL]; exact hlt)⟩
    obtain ⟨hrow, hnil⟩ := (unhide HROW) wr hbr
    obtain ⟨b, off, rfl, _, hat⟩ := hrow.at (by omega)
    obtain ⟨s1, n1, d1, c0, r1⟩ := hat k z hit
    obtain ⟨s1', n1', d1', c0', hnn⟩ := hnil b off rfl k hlt
    rw [c0] at c0'
    simp only [Option.some.injEq, Value.slice.injEq] at c0'
    obtain ⟨rfl, rfl, rfl⟩ := c0'
    have hz8 := (unhide HZ) z (List.mem_of_getElem? hit)
    have hzl : z.length = n1 := r1.1
    have hzr := (unhide HBY) z (List.mem_of_getElem? hit)
    have HP := hide (copy_any s1 n1 d1 z wr r1 hnn (by omega))
    have hts : zss.take (k + 1) = zss.take k ++ [z] := by obtain ⟨hk', e'⟩ := List.getElem?_eq_some_iff.1 hit; rw [List.take_succ_eq_append_getElem hk', e']
    have htl : (zss.take k).length = k := by rw [List.length_take]; have := unhide HL; omega
    have htn : t.n = k := by rw [hcs.1]; exact htl
    have k1 : (0 : Int) ≤ (k : Int) := by omega
    have k2 : (k : Int) < (len : Int) := by omega
    have HCS := hide hcs
    have HB := hide hbr
    have HTS := hide hts
    have HTL := hide htl
    have HTN := hide htn
    have HZR := hide hzr
    clear hcs hbr hit hrow hnil hat r1 hnn hz8 hts htl htn hzr
    go_wp2_with fail
    refine (unhide HP).mono ?_
    rintro e w2 ⟨a2, c2, rfl, o2, b2⟩
    have ba := below_alloc w2 (.cells #[.slice a2 n1 c2] 29)
    have hs2 : wr.heap.size ≤ w2.heap.size := b2.size
    have hwr : w.heap.size ≤ wr.heap.size := (unhide HB).size
    obtain ⟨d', hd'⟩ : ∃ d' : Nat → Nat, d' = fun g => if wr.heap.size ≤ g then c + 3 * k else d g := ⟨_, rfl⟩
    have cz : CB w2 w.heap.size d' (c + 3 * k) ⟨a2, n1, c2⟩ z := by rw [hd']; exact CB.new hzl.symm (unhide HZR) o2 hwr
    have cs2 := ((unhide HCS).recol (d' := d') (fun g hg => by rw [hd']; exact if_neg (by omega))).below b2 (Nat.le_refl _)
    have cz := cz.below ba (Nat.le_refl _)
    obtain ⟨h1, es, h2, h3, h4, h5⟩ := cs2.below ba (Nat.le_refl _)
    have H1 := hide h1
    have H2 := hide h2
    have H4 := hide h4
    have H5 := hide h5
    have HCZ := hide cz
    have HCS2 := hide cs2
    clear h1 h2 h4 h5 cz cs2
    have B3 := (unhide HB).trans ((b2.trans (ba.mono b2.size)).mono hwr)
    have hsz3 : w.heap.size ≤ (w2.alloc (.cells #[.slice a2 n1 c2] 29)).heap.size := B3.size
    have hnk : t.n ≤ 1048576 := by have := unhide HTN; omega
    go_wp2_with (at_builtin; refine wpList_append_own_at _ rfl _ _ 24 rfl w.heap.size 29 i0 (.slice none 0 0) 1 24 Tryz.underlying24 hi hz0 hz1 hz2 rfl (by decide) _ _ _ rfl h3 ⟨w2.heap.size, 0, none⟩ 1 1 [.slice a2 n1 c2] rfl rfl ?c1 ?c2 ?c3 ?c4 ?c5 ?_)
    case c1 => exact one_at _ _ _
    case c2 => intro u hu; simp at hu; subst hu; rfl
    case c3 => unfold maxLen; omega
    case c4 => omega
    case c5 => exact hsz3
    intro v' w6 hown2 hgrow _ hblk
    obtain ⟨a6, c6, hv6⟩ := own_shape hown2
    subst hv6
    have SN := CS.mkSnoc (unhide HR) hsz3 (unhide H1) (unhide H2) h3 (unhide H4) (unhide H5) (by rw [unhide HTL]; exact unhide HCZ) hown2 hgrow (by rw [show (w2.alloc (.cells #[.slice a2 n1 c2] 29)).heap.size = w2.heap.size + 1 by simp]; exact hblk)
    rw [← unhide HTS] at SN
    have B6 : Below w.heap.size w w6 := B3.grown hgrow hsz3 (fun g e => (h3.lt g e).1)
    have HS6 := hide SN.1
    have HB6 := hide B6
    clear SN B6 hown2 hgrow hblk H1 H2 h3 H4 H5 HCZ HCS2 B3 ba o2 b2 HP HCS HB hd'
    go_wp2_with fail
    go_roundw
    case rel => exact ⟨k + 1, ⟨a6, t.n + 1, c6⟩, _, by omega, by go_num, rfl, unhide HS6, unhide HB6⟩
    case measure => simp [intOf]; omega
  · obtain rfl : k = len := by omega
    have et : zss.take k = zss := List.take_of_length_le (by rw [unhide HL]; exact Nat.le_refl _)
    rw [et] at hcs
    have HC := hide hcs
    have HB := hide hbr
    clear et hcs hbr
    go_wp2_with fail
    go_ret
    exact ⟨t, d, rfl, unhide HC, unhide HB⟩

set_option maxRecDepth 100000

theorem infoRc : (Tryz.prog.info? 93).map (fun i => (i.zero, i.size, i.bytes)) = some (some (.agg #[.int .i64 0, .slice none 0 0]), 2, 32) := by kernel_rfl
theorem infoVt : (Tryz.prog.info? 97).map (fun i => (i.zero, i.size, i.bytes)) = some (some (.agg #[.slice none 0 0, .slice none 0 0, .bool false]), 3, 56) := by kernel_rfl

theorem two_at (w : World) (x y : Value) (t : TypeId) : ∀ (j : Nat) (u : Value), [x, y][j]? = some u → (w.alloc (.cells #[x, y] t)).cell? ((⟨w.heap.size, 0, none⟩ : Addr).add j) = some u := by
 intro j u hj
 rw [add_none, Nat.zero_add, World.cell?_alloc_new]
 match j, hj with
 | 0, hj => simpa using hj
 | 1, hj => simpa using hj

theorem three_at (w : World) (x y z : Value) (t : TypeId) : ∀ (j : Nat) (u : Value), [x, y, z][j]? = some u → (w.alloc (.cells #[x, y, z] t)).cell? ((⟨w.heap.size, 0, none⟩ : Addr).add j) = some u := by
 intro j u hj
 rw [add_none, Nat.zero_add, World.cell?_alloc_new]
 match j, hj with
 | 0, hj => simpa using hj
 | 1, hj => simpa using hj
 | 2, hj => simpa using hj

/-- The copy of a snapshot while its recents are copied: gs its block, W5 the world ahead of it. -/
structure RcInv (W6 : World) (C gs B : Nat) (n : Int) (sg : Sl) (rs : List Rc) (k : Nat) (W : World) (s : Sl) (d : Nat → Path) : Prop where
 blk : SBlk W gs [.int .i64 n, .slice sg.a sg.n sg.c, .slice s.a s.n s.c, .slice none 0 0] 37
 row : RowG rcK 93 W B d [] s (rs.take k)
 keep : ∀ g, g < B → g ≠ gs → W.heap[g]? = W6.heap[g]?
 old : Below C W6 W
 size : B ≤ W.heap.size
 gsB : gs < B
 low : C ≤ gs

theorem RcInv.below {W6 W W' : World} {C gs B : Nat} {n : Int} {sg : Sl} {rs : List Rc} {k : Nat} {s : Sl} {d : Nat → Path} (h : RcInv W6 C gs B n sg rs k W s d) (hb : Below W.heap.size W W') : RcInv W6 C gs B n sg rs k W' s d :=
 ⟨h.blk.below hb h.blk.lt, h.row.below hb (Nat.le_refl _), fun g a b => (hb.block g (Nat.lt_of_lt_of_le a h.size)).trans (h.keep g a b), h.old.trans (hb.mono (by have := h.blk.lt; have := h.low; omega)), Nat.le_trans h.size hb.size, h.gsB, h.low⟩

/-- One more recent. -/
theorem RcInv.step {W6 W W1 WA W2 : World} {C gs B : Nat} {n : Int} {sg : Sl} {rs : List Rc} {k : Nat} {s : Sl} {d : Nat → Path} {q : Int} {z : List Int} {a1 : Option Addr} {n1 c1 : Nat} {g2 cap2 : Nat} {es : List RcS}
    (h : RcInv W6 C gs B n sg rs k W s d) (hk : rs[k]? = some (q, z)) (hq : in64 q) (hz : ∀ x ∈ z, 0 ≤ x ∧ x ≤ 255)
    (ho : W1.ownsRow W.heap.size 5 1 (.slice a1 n1 c1) n1 (z.map (Value.int .u8))) (hb : Below W.heap.size W W1) (bA : Below W1.heap.size W1 WA)
    (e2 : es.length = (rs.take k).length) (e4 : ∀ i e x, es[i]? = some e → (rs.take k)[i]? = some x → rcK.Own W B d ([] ++ [i]) e x)
    (hown : W2.ownsRow B 93 2 (.slice (some ⟨g2, 0, none⟩) (s.n + 1) cap2) (s.n + 1) (flatV rcK es (rs.take k) ++ [.int .i64 q, .slice a1 n1 c1])) (hg : WA.grownBy W2 (Value.slice s.a s.n s.c).ownBlock) (hat : (Value.slice s.a s.n s.c).ownBlock = some g2 ∨ g2 = WA.heap.size) :
    (∃ u, W2.cell? ⟨gs, 2, none⟩ = some u) ∧ W2.frozen? ⟨gs, 2, none⟩ = false ∧ Below C W6 W2 ∧ ∃ d', RcInv W6 C gs B n sg rs (k + 1) (W2.setCell ⟨gs, 2, none⟩ (.slice (some ⟨g2, 0, none⟩) (s.n + 1) cap2)) ⟨some ⟨g2, 0, none⟩, s.n + 1, cap2⟩ d' := by
 have hts : rs.take (k + 1) = rs.take k ++ [(q, z)] := by obtain ⟨hk', e'⟩ := List.getElem?_eq_some_iff.1 hk; rw [List.take_succ_eq_append_getElem hk', e']
 have htl : (rs.take k).length = k := by rw [List.length_take]; have := (List.getElem?_eq_some_iff.1 hk).1; omega
 have hgs := h.blk.lt
 have hB := h.size
 have hgB := h.gsB
 have hlo := h.low
 have b0A : Below W.heap.size W WA := hb.trans (bA.mono hb.size)
 obtain ⟨d1, hd1⟩ : ∃ d1 : Nat → Path, d1 = fun g => if W.heap.size ≤ g then [k, 1] else d g := ⟨_, rfl⟩
 have hdo : ∀ g, g < W.heap.size → d1 g = d g := fun g hg => by rw [hd1]; exact if_neg (by omega)
 have own1 : rcK.Own WA B d1 ([] ++ [(rs.take k).length]) ((), ⟨a1, n1, c1⟩) (q, z) := by
  rw [htl]
  refine ⟨hq, hz, ?_, fun x hx => ?_⟩
  · exact ownsRow_base (own_below ho bA (Nat.le_refl _)) hB
  · have hx' : a1 = some x := hx
    have := (ho.lt x.block (by rw [hx']; rfl)).1
    rw [hd1]
    exact if_pos this
 have hrow := h.row
 have h4' : ∀ x, s.a = some x → d1 x.block = [] := fun x hx => by
  rw [hdo _ (hrow.blk hx).2]
  obtain ⟨_, es', _, _, q4, _⟩ := hrow
  exact q4 x hx
 have S := RowG.snoc (K := rcK) (w := WA) (d := d1) (p := []) (s := s) hrow.len e2 h4' (fun i e x he hx => rcK.ownBelow (rcK.recolNew (e4 i e x he hx) hdo) b0A (Nat.le_refl _)) own1 hown hg hat
 rw [← hts] at S
 have hob : ∀ g, (Value.slice s.a s.n s.c).ownBlock = some g → B ≤ g := fun g hg' => by
  cases ha : s.a with
  | none => rw [ha] at hg'; cases hg'
  | some y => rw [ha] at hg'; obtain rfl := Option.some.inj hg'; exact (hrow.blk ha).1
 have kA := h.blk.below b0A hgs
 have hsA := b0A.size
 have k2 : SBlk W2 gs [.int .i64 n, .slice sg.a sg.n sg.c, .slice s.a s.n s.c, .slice none 0 0] 37 := (hg.block gs kA.lt (fun e => by have := hob gs e.symm; omega)).trans kA
 have f5 : Below C W6 W2 := (h.old.trans (b0A.mono (by omega))).grown hg (by omega) (fun g e => by have := hob g e; omega)
 refine ⟨⟨_, k2.cell 2⟩, k2.free 2, f5, _, ⟨k2.set 2 _, S.set hgB, fun g a b => ?_, ?_, ?_, hgB, hlo⟩⟩
 · rw [heap_setCell_other W2 ⟨gs, 2, none⟩ g _ (fun e => b e)]
   rw [hg.block g (by omega) (fun e => by have := hob g e.symm; omega), b0A.block g (by omega)]
   exact h.keep g a b
 · exact f5.setCell (p := ⟨gs, 2, none⟩) hlo _
 · have := hg.size
   simp [World.setCell]
   omega

/-- A snapshot in the block gs while votes are appended to its own: W0 the world ahead of them, B where their memory begins. -/
structure VtInv (W0 : World) (C gs B : Nat) (v0 v1 v2 : Value) (ys : List Vt) (W : World) (s : Sl) (d : Nat → Path) : Prop where
 blk : SBlk W gs [v0, v1, v2, .slice s.a s.n s.c] 37
 row : RowG vtK 97 W B d [] s ys
 keep : ∀ g, g < B → g ≠ gs → W.heap[g]? = W0.heap[g]?
 old : Below C W0 W
 size : B ≤ W.heap.size
 gsB : gs < B
 low : C ≤ gs

theorem VtInv.below {W0 W W' : World} {C gs B : Nat} {v0 v1 v2 : Value} {ys : List Vt} {s : Sl} {d : Nat → Path} (h : VtInv W0 C gs B v0 v1 v2 ys W s d) (hb : Below W.heap.size W W') : VtInv W0 C gs B v0 v1 v2 ys W' s d :=
 ⟨h.blk.below hb h.blk.lt, h.row.below hb (Nat.le_refl _), fun g a b => (hb.block g (Nat.lt_of_lt_of_le a h.size)).trans (h.keep g a b), h.old.trans (hb.mono (by have := h.blk.lt; have := h.low; omega)), Nat.le_trans h.size hb.size, h.gsB, h.low⟩

/-- One more vote: its two slices are new. -/
theorem VtInv.step {W0 W W1 W1' WA W2 : World} {C gs B : Nat} {v0 v1 v2 : Value} {ys : List Vt} {s : Sl} {d : Nat → Path} {y z : List Int} {q : Bool} {a1 a2 : Option Addr} {n1 c1 n2 c2 : Nat} {g2 cap2 : Nat} {es : List VtS}
    (h : VtInv W0 C gs B v0 v1 v2 ys W s d) (hy : ∀ x ∈ y, 0 ≤ x ∧ x ≤ 255) (hz : ∀ x ∈ z, 0 ≤ x ∧ x ≤ 255)
    (ho : W1.ownsRow W.heap.size 5 1 (.slice a1 n1 c1) n1 (y.map (Value.int .u8))) (hb : Below W.heap.size W W1)
    (ho2 : W1'.ownsRow W1.heap.size 5 1 (.slice a2 n2 c2) n2 (z.map (Value.int .u8))) (hb2 : Below W1.heap.size W1 W1') (bA : Below W1'.heap.size W1' WA)
    (e2 : es.length = ys.length) (e4 : ∀ i e x, es[i]? = some e → ys[i]? = some x → vtK.Own W B d ([] ++ [i]) e x)
    (hown : W2.ownsRow B 97 3 (.slice (some ⟨g2, 0, none⟩) (s.n + 1) cap2) (s.n + 1) (flatV vtK es ys ++ [.slice a1 n1 c1, .slice a2 n2 c2, .bool q])) (hg : WA.grownBy W2 (Value.slice s.a s.n s.c).ownBlock) (hat : (Value.slice s.a s.n s.c).ownBlock = some g2 ∨ g2 = WA.heap.size) :
    (∃ u, W2.cell? ⟨gs, 3, none⟩ = some u) ∧ W2.frozen? ⟨gs, 3, none⟩ = false ∧ Below C W0 W2 ∧ ∃ d', VtInv W0 C gs B v0 v1 v2 (ys ++ [(y, z, q)]) (W2.setCell ⟨gs, 3, none⟩ (.slice (some ⟨g2, 0, none⟩) (s.n + 1) cap2)) ⟨some ⟨g2, 0, none⟩, s.n + 1, cap2⟩ d' := by
 have hgs := h.blk.lt
 have hB := h.size
 have hgB := h.gsB
 have hlo := h.low
 have b01 : Below W.heap.size W W1' := hb.trans (hb2.mono hb.size)
 have b0A : Below W.heap.size W WA := b01.trans (bA.mono b01.size)
 have hs1 := hb.size
 have hs2 := hb2.size
 obtain ⟨d1, hd1⟩ : ∃ d1 : Nat → Path, d1 = fun g => if W1.heap.size ≤ g then [ys.length, 1, 0] else if W.heap.size ≤ g then [ys.length, 0] else d g := ⟨_, rfl⟩
 have hdo : ∀ g, g < W.heap.size → d1 g = d g := fun g hg => by rw [hd1]; show (if _ then _ else _) = _; rw [if_neg (by omega), if_neg (by omega)]
 have own1 : vtK.Own WA B d1 ([] ++ [ys.length]) (⟨a1, n1, c1⟩, ⟨a2, n2, c2⟩, ()) (y, z, q) := by
  refine ⟨⟨hy, ?_, fun x hx => ?_⟩, ⟨hz, ?_, fun x hx => ?_⟩, trivial⟩
  · exact ownsRow_base (own_below (own_below ho hb2 (Nat.le_refl _)) bA (Nat.le_refl _)) hB
  · have hx' : a1 = some x := hx
    have l := ho.lt x.block (by rw [hx']; rfl)
    rw [hd1]
    show (if _ then _ else _) = _
    rw [if_neg (by omega), if_pos l.1]
    rfl
  · exact ownsRow_base (own_below ho2 bA (Nat.le_refl _)) (by omega)
  · have hx' : a2 = some x := hx
    have l := (ho2.lt x.block (by rw [hx']; rfl)).1
    rw [hd1]
    show (if _ then _ else _) = _
    rw [if_pos l]
    rfl
 have hrow := h.row
 have h4' : ∀ x, s.a = some x → d1 x.block = [] := fun x hx => by
  rw [hdo _ (hrow.blk hx).2]
  obtain ⟨_, es', _, _, q4, _⟩ := hrow
  exact q4 x hx
 have S := RowG.snoc (K := vtK) (w := WA) (d := d1) (p := []) (s := s) hrow.len e2 h4' (fun i e x he hx => vtK.ownBelow (vtK.recolNew (e4 i e x he hx) hdo) b0A (Nat.le_refl _)) own1 hown hg hat
 have hob : ∀ g, (Value.slice s.a s.n s.c).ownBlock = some g → B ≤ g := fun g hg' => by
  cases ha : s.a with
  | none => rw [ha] at hg'; cases hg'
  | some y => rw [ha] at hg'; obtain rfl := Option.some.inj hg'; exact (hrow.blk ha).1
 have kA := h.blk.below b0A hgs
 have hsA := b0A.size
 have k2 : SBlk W2 gs [v0, v1, v2, .slice s.a s.n s.c] 37 := (hg.block gs kA.lt (fun e => by have := hob gs e.symm; omega)).trans kA
 have f5 : Below C W0 W2 := (h.old.trans (b0A.mono (by omega))).grown hg (by omega) (fun g e => by have := hob g e; omega)
 refine ⟨⟨_, k2.cell 3⟩, k2.free 3, f5, _, ⟨k2.set 3 _, S.set hgB, fun g a b => ?_, ?_, ?_, hgB, hlo⟩⟩
 · rw [heap_setCell_other W2 ⟨gs, 3, none⟩ g _ (fun e => b e)]
   rw [hg.block g (by omega) (fun e => by have := hob g e.symm; omega), b0A.block g (by omega)]
   exact h.keep g a b
 · exact f5.setCell (p := ⟨gs, 3, none⟩) hlo _
 · have := hg.size
   simp [World.setCell]
   omega

/-- A copy that has its number and its signers alone, in the block gs of the world W6. -/
structure CpW (W0 W6 : World) (gs : Nat) (n : Int) (s5 : Sl) (zss : List (List Int)) : Prop where
 blk : SBlk W6 gs [.int .i64 n, .slice s5.a s5.n s5.c, .slice none 0 0, .slice none 0 0] 37
 low : W0.heap.size ≤ gs
 old : Below W0.heap.size W0 W6
 sgn : ∀ W : World, (∀ g, W0.heap.size ≤ g → g < W6.heap.size → g ≠ gs → W.heap[g]? = W6.heap[g]?) → RowOk bytesK W s5 zss

theorem cpw_late {W0 w5 : World} {d5 : Nat → Nat} {n : Int} {s5 : Sl} {zss : List (List Int)} (r5 : CS w5 W0.heap.size d5 6 8 s5 zss) (J5 : Below W0.heap.size W0 w5) :
    CpW W0 (w5.alloc (.cells #[.int .i64 n, .slice s5.a s5.n s5.c, .slice none 0 0, .slice none 0 0] 37)) w5.heap.size n s5 zss := by
 refine ⟨SBlk.new w5 #[.int .i64 n, .slice s5.a s5.n s5.c, .slice none 0 0, .slice none 0 0] 37, J5.size, J5.alloc J5.size _, fun W hW => ?_⟩
 obtain ⟨d', h'⟩ := row_of_cs r5 (by intro i; omega) []
 refine (rowK bytesK 29).ok (RowPart.frame h' (fun g hg hB _ => ?_))
 rw [hW g hB (by simp; omega) (by omega)]
 exact (below_alloc w5 _).block g hg

theorem cpw_early {W0 w5 : World} {d5 : Nat → Nat} {n : Int} {s5 : Sl} {zss : List (List Int)} (r5 : CS w5 (W0.heap.size + 1) d5 6 8 s5 zss) (J5 : Below W0.heap.size W0 w5) (kz : SBlk w5 W0.heap.size [.int .i64 0, .slice none 0 0, .slice none 0 0, .slice none 0 0] 37) :
    CpW W0 ((((w5.setCell ⟨W0.heap.size, 0, none⟩ (.int .i64 n)).setCell ⟨W0.heap.size, 1, none⟩ (.slice s5.a s5.n s5.c)).setCell ⟨W0.heap.size, 2, none⟩ (.slice none 0 0)).setCell ⟨W0.heap.size, 3, none⟩ (.slice none 0 0)) W0.heap.size n s5 zss := by
 have k := (((kz.set 0 (.int .i64 n)).set 1 (.slice s5.a s5.n s5.c)).set 2 (.slice none 0 0)).set 3 (.slice none 0 0)
 refine ⟨k, Nat.le_refl _, ?_, fun W hW => ?_⟩
 · exact (((J5.setCell (p := ⟨W0.heap.size, 0, none⟩) (Nat.le_refl _) _).setCell (p := ⟨W0.heap.size, 1, none⟩) (Nat.le_refl _) _).setCell (p := ⟨W0.heap.size, 2, none⟩) (Nat.le_refl _) _).setCell (p := ⟨W0.heap.size, 3, none⟩) (Nat.le_refl _) _
 · obtain ⟨d', h'⟩ := row_of_cs r5 (by intro i; omega) []
   refine (rowK bytesK 29).ok (RowPart.frame h' (fun g hg hB _ => ?_))
   rw [hW g (by omega) (by simp [World.setCell]; exact hg) (by omega)]
   rw [heap_setCell_other _ ⟨W0.heap.size, 3, none⟩ g _ (fun e => by simp at e; omega), heap_setCell_other _ ⟨W0.heap.size, 2, none⟩ g _ (fun e => by simp at e; omega), heap_setCell_other _ ⟨W0.heap.size, 1, none⟩ g _ (fun e => by simp at e; omega), heap_setCell_other _ ⟨W0.heap.size, 0, none⟩ g _ (fun e => by simp at e; omega)]

set_option maxRecDepth 100000

theorem isHash_any (a : Option Addr) (n cap : Nat) (w : World) : Calls Tryz.prog 120 #[.slice a n cap] w fun e w' => e = .returned (.bool (((n : Nat) : Int) == 32)) ∧ w' = w := by
 go_enter Tryz.func120, Tryz.ntmps120
 go_wp2_with fail
 go_ret
 exact ⟨rfl, rfl⟩

theorem isWithin_any (v lo hi : Int) (w : World) : Calls Tryz.prog 117 #[.int .i64 v, .int .i64 lo, .int .i64 hi] w fun e w' => e = .returned (.bool (within v lo hi)) ∧ w' = w := by
 unfold within
 by_cases h0 : lo ≤ v
 · have e0 : decide (lo ≤ v) = true := decide_eq_true h0
   by_cases h1 : v ≤ hi
   · have e1 : decide (v ≤ hi) = true := decide_eq_true h1
     have e : decide (lo ≤ v ∧ v ≤ hi) = true := decide_eq_true ⟨h0, h1⟩
     rw [e]
     clear e
     go_enter Tryz.func117, Tryz.ntmps117
     go_wp2_with fail
     go_ret
     exact ⟨rfl, rfl⟩
   · have e1 : decide (v ≤ hi) = false := decide_eq_false h1
     have e : decide (lo ≤ v ∧ v ≤ hi) = false := decide_eq_false (fun h => h1 h.2)
     rw [e]
     clear e
     go_enter Tryz.func117, Tryz.ntmps117
     go_wp2_with fail
     go_ret
     exact ⟨rfl, rfl⟩
 · have e0 : decide (lo ≤ v) = false := decide_eq_false h0
   have e : decide (lo ≤ v ∧ v ≤ hi) = false := decide_eq_false (fun h => h0 h.1)
   rw [e]
   clear e
   go_enter Tryz.func117, Tryz.ntmps117
   go_wp2_with fail
   go_ret
   exact ⟨rfl, rfl⟩

theorem isWithin_to (v lo hi : Int) (c : Bool) (w : World) (e : within v lo hi = c) : Calls Tryz.prog 117 #[.int .i64 v, .int .i64 lo, .int .i64 hi] w fun e w' => e = .returned (.bool c) ∧ w' = w := by
 subst e; exact isWithin_any v lo hi w

theorem isNumber_to (v : Int) (c : Bool) (w : World) (e : within v 0 1099511627776 = c) : Calls Tryz.prog 94 #[.int .i64 v] w fun e w' => e = .returned (.bool c) ∧ w' = w := by
 have HI := hide (isWithin_to v 0 1099511627776 c w e)
 clear e
 go_enter Tryz.func94, Tryz.ntmps94
 go_wp2_with fail
 refine (unhide HI).mono ?_
 rintro e w' ⟨rfl, rfl⟩
 go_wp2_with fail
 go_ret
 exact ⟨rfl, rfl⟩

theorem hasNonce_to (x : HS) (h : Hd) (c : Bool) (w : World) (e : within h.n5 0 2 = c) : Calls Tryz.prog 122 #[.agg #[.slice x.t.a x.t.n x.t.c, .int .i64 h.n5, .slice x.s.a x.s.n x.s.c]] w fun e w' => e = .returned (.bool c) ∧ Below w.heap.size w w' := by
 have HI := hide (fun W => isWithin_to h.n5 0 2 c W e)
 have HB := hide (below_alloc w (.cells #[.slice x.t.a x.t.n x.t.c, .int .i64 h.n5, .slice x.s.a x.s.n x.s.c] 137))
 clear e
 go_enter Tryz.func122, Tryz.ntmps122
 go_wp2_with fail
 refine ((unhide HI) _).mono ?_
 rintro e w' ⟨rfl, rfl⟩
 go_wp2_with fail
 go_ret
 exact ⟨rfl, unhide HB⟩

theorem hasAim_to (x : HS) (h : Hd) (b2 b3 : Bool) (w : World) (e2 : (((x.t.n : Nat) : Int) != 0) = b2) (e3 : (((x.t.n : Nat) : Int) != 4) = b3) :
    Calls Tryz.prog 121 #[.agg #[.slice x.t.a x.t.n x.t.c, .int .i64 h.n5, .slice x.s.a x.s.n x.s.c]] w fun e w' => e = .returned (.bool (!(b2 && b3))) ∧ Below w.heap.size w w' := by
 have HI := hide (fun W => isAddr_any x.t.a x.t.n x.t.c W)
 have HB := hide (below_alloc w (.cells #[.slice x.t.a x.t.n x.t.c, .int .i64 h.n5, .slice x.s.a x.s.n x.s.c] 137))
 have f2 : (((x.t.n : Nat) : Int) == 0) = !b2 := by rw [← e2]; simp [bne]
 have f3 : (((x.t.n : Nat) : Int) == 4) = !b3 := by rw [← e3]; simp [bne]
 simp only [f3] at HI
 clear e2 e3 f3
 cases b2
 · have f2' : (((x.t.n : Nat) : Int) == 0) = true := f2
   clear f2
   go_enter Tryz.func121, Tryz.ntmps121
   go_wp2_with fail
   go_ret
   exact ⟨rfl, unhide HB⟩
 · have f2' : (((x.t.n : Nat) : Int) == 0) = false := f2
   clear f2
   go_enter Tryz.func121, Tryz.ntmps121
   go_wp2_with fail
   refine ((unhide HI) _).mono ?_
   rintro e w' ⟨rfl, rfl⟩
   go_wp2_with fail
   go_ret
   exact ⟨ret_bool (by cases b3 <;> rfl), unhide HB⟩

theorem votesFault_any (x : HS) (h : Hd) (w : World) (o : BsRow w x.s.a x.s.n h.s) (hl : x.s.n ≤ 1048576) : Calls Tryz.prog 101 #[.agg #[.slice x.t.a x.t.n x.t.c, .int .i64 h.n5, .slice x.s.a x.s.n x.s.c]] w fun e w' => e = .returned (.int .i64 (sgFlt h.s)) ∧ Below w.heap.size w w' := by
 have hb := below_alloc w (.cells #[.slice x.t.a x.t.n x.t.c, .int .i64 h.n5, .slice x.s.a x.s.n x.s.c] 137)
 have HI := hide (implSigners_any x.s.a x.s.n x.s.c h.s _ (o.below hb (Nat.le_refl _)) hl)
 have HB := hide hb
 clear o hb
 generalize sgFlt h.s = q at HI
 go_enter Tryz.func101, Tryz.ntmps101
 go_wp2_with fail
 refine (unhide HI).mono ?_
 rintro e w' ⟨rfl, rfl⟩
 go_wp2_with fail
 go_ret
 exact ⟨rfl, unhide HB⟩

set_option maxHeartbeats 4000000 in
theorem commitsFault_any (x : HS) (h : Hd) (w : World) (o : BsRow w x.k.a x.k.n h.k) (hkl : x.k.n ≤ 1048576) : Calls Tryz.prog 102 #[.agg (hvals x h)] w fun e w' => e = .returned (.int .i64 (coFlt h.k)) ∧ Below w.heap.size w w' := by
 have k0 := SBlk.new w (hvals x h) 139
 have hb := below_alloc w (.cells (hvals x h) 139)
 obtain ⟨x0, x1, x2, x3, x4, x5, x6, x7, x8, x9, x10⟩ := hcells k0
 have HK := hide (o.below hb (Nat.le_refl _))
 have HB := hide hb
 obtain ⟨W0, e0⟩ : ∃ W0, w.alloc (.cells (hvals x h) 139) = W0 := ⟨_, rfl⟩
 rw [e0] at x10 HK HB
 clear o hb k0 x0 x1 x2 x3 x4 x5 x6 x7 x8 x9
 unfold hvals at e0 ⊢
 by_cases h7 : 7 < x.k.n
 · have d7 : decide ((7 : Int) < (x.k.n : Int)) = true := decide_eq_true (by omega)
   go_enter Tryz.func102, Tryz.ntmps102
   go_wp2_with (rw [e0])
   go_ret
   refine ⟨ret_int ?_, by first | exact unhide HB | (rw [e0]; exact unhide HB)⟩
   unfold coFlt; rw [if_pos (by rw [(unhide HK).1]; exact h7)]
 · have d7 : decide ((7 : Int) < (x.k.n : Int)) = false := decide_eq_false (by omega)
   have HE3 : Hid (coFlt h.k = coFrom h.k) := by
    show _ = _
    unfold coFlt; rw [if_neg (by rw [(unhide HK).1]; exact h7)]
   go_enter Tryz.func102, Tryz.ntmps102
   go_upto_region 1 with (rw [e0])
   try rw [e0]
   clear e0
   go_wp2_with fail
   go_loop [12] (fun i => ∃ k : Nat, k ≤ x.k.n ∧ i = .int .i64 k ∧ coFrom h.k = coFrom (h.k.drop k)) (fun i => x.k.n - (intOf i).toNat)
   case atStart => exact ⟨0, Nat.zero_le _, rfl, by simp⟩
   case round =>
    obtain ⟨k, hk, rfl, hpre⟩ := hrel
    by_cases hlt : k < x.k.n
    · obtain ⟨z, hit⟩ : ∃ z, h.k[k]? = some z := ⟨_, List.getElem?_eq_getElem (by rw [(unhide HK).1]; exact hlt)⟩
      have hst := coFrom_step h.k k z hit
      rw [← hpre] at hst
      obtain ⟨bb, off, hba, _, hcc⟩ := (unhide HK).at (by omega)
      obtain ⟨s1, m1, d1, p0, r1⟩ := hcc k z hit
      have hzl : z.length = m1 := r1.1
      rw [hzl] at hst
      have HS := hide hst
      have i1 : (0 : Int) ≤ (k : Int) := by omega
      have i2 : (k : Int) < (x.k.n : Int) := by omega
      clear r1 hst hpre hit hzl hcc x10
      by_cases h8 : m1 = 8
      · have d8 : (((m1 : Nat) : Int) != 8) = false := by simp [h8]
        rw [if_pos h8] at HS
        clear h8
        rw [hba]
        clear hba
        go_wp2_with fail
        go_round
        case rel => exact ⟨k + 1, by omega, by go_num, unhide HS⟩
        case measure => simp [intOf]; omega
      · have d8 : (((m1 : Nat) : Int) != 8) = true := by simp; omega
        rw [if_neg h8] at HS
        clear h8
        rw [hba]
        clear hba
        go_wp2_with fail
        go_ret
        exact ⟨ret_int (by rw [unhide HE3, unhide HS]), unhide HB⟩
    · obtain rfl : k = x.k.n := by omega
      have e := coFrom_end h.k x.k.n (by rw [(unhide HK).1]; exact Nat.le_refl _)
      rw [e] at hpre
      have HP := hide hpre
      clear e hpre
      go_wp2_with fail
      go_ret
      exact ⟨ret_int (by rw [unhide HE3, unhide HP]), unhide HB⟩

set_option maxRecDepth 100000

theorem in_yes (v lo hi : Int) (w : World) (h0 : lo ≤ v) (h1 : v ≤ hi) : Calls Tryz.prog 50 #[.int .i64 v, .int .i64 lo, .int .i64 hi] w fun e w' => e = .returned (.bool true) ∧ w' = w := by
 have e0 : decide (lo ≤ v) = true := decide_eq_true h0
 have e1 : decide (v ≤ hi) = true := decide_eq_true h1
 go_enter Tryz.func50, Tryz.ntmps50
 go_wp2
 go_ret
 exact ⟨ret_bool (by simp), rfl⟩

set_option maxHeartbeats 1000000 in
theorem in_no (v lo hi : Int) (w : World) (h : v < lo ∨ hi < v) : Calls Tryz.prog 50 #[.int .i64 v, .int .i64 lo, .int .i64 hi] w fun e w' => e = .returned (.bool false) ∧ w' = w := by
 by_cases h0 : lo ≤ v
 · have e0 : decide (lo ≤ v) = true := decide_eq_true h0
   have e1 : decide (v ≤ hi) = false := decide_eq_false (by omega)
   go_enter Tryz.func50, Tryz.ntmps50
   go_wp2
   go_ret
   exact ⟨ret_bool (by simp), rfl⟩
 · have e0 : decide (lo ≤ v) = false := decide_eq_false h0
   go_enter Tryz.func50, Tryz.ntmps50
   go_wp2
   go_ret
   exact ⟨ret_bool (by simp), rfl⟩

/-- Whether a number is a word. -/
def isWord (v : Int) : Bool := decide (0 ≤ v ∧ v ≤ 4294967295)

theorem in_any (v lo hi : Int) (w : World) : Calls Tryz.prog 50 #[.int .i64 v, .int .i64 lo, .int .i64 hi] w fun e w' => e = .returned (.bool (decide (lo ≤ v ∧ v ≤ hi))) ∧ w' = w := by
 by_cases h : lo ≤ v ∧ v ≤ hi
 · rw [decide_eq_true h]; exact in_yes v lo hi w h.1 h.2
 · rw [decide_eq_false h]; exact in_no v lo hi w (by omega)

end Go.Proofs.YtdmcmlcmgbbclaaGreat
