/- What is proved here: what the model's l5Signers answers: the first fault of a list of signers. -/
import Derived.Test.YtpkfgffgldjceaaDoorJ6
import Derived.WalkKit
import Derived.WalkSmall
import Derived.Deep.RegionWith
import Derived.BigQuiet
import Derived.Deep.QuietTactic
import Derived.WalkSpells
import Derived.Test.YtpkfgffgldjceaaDoorJ3
import Derived.Test.YtpkfgffgldjceaaDoorChecked
import Derived.Test.YtpkfgffgldjceaaDoorJ1
import Derived.Laws.AppendOwnNone
import Derived.WalkLawsBesides
import Derived.KernelRfl
import Derived.Maps.AppendAt
import Derived.Deep.RegionLaw
import Derived.Deep.RegionHeld3
import Derived.Deep.AppendLies
import Derived.Maps.OwnSet
import Derived.DeepKeys4
import Derived.Test.YtpkfgffgldjceaaDoorJ4
import Derived.Laws.CopyRow
import Derived.Maps.Views
import Derived.RegionTactic
namespace Go.Proofs.YtpkfgffgldjceaaDoor
open Go.RowKit
set_option linter.unusedVariables false
set_option maxRecDepth 100000

set_option maxHeartbeats 2000000 in
theorem l5Signers_any (a : Option Addr) (len cap : Nat) (zss : List (List Int)) (w : World) (h : BsRow w a len zss) (hl : len ≤ 1048576) :
    Calls Tryd.prog 65 #[.slice a len cap] w fun e w' => e = .returned (.int .i64 (sgFlt zss)) ∧ ∃ n, w' = w.drewN n := by
  have hil := h.1
  by_cases h2 : 7 < len
  · have HE : Hid (sgFlt zss = 2) := by show _ = _; unfold sgFlt; rw [if_pos (by rw [hil]; exact h2)]
    have hd : decide ((7 : Int) < (len : Int)) = true := decide_eq_true (by omega)
    clear h hil
    go_enter Tryd.func65, Tryd.ntmps65
    go_wp2_with fail
    go_ret
    exact ⟨ret_int (unhide HE).symm, 0, rfl⟩
  · have d2 : decide ((7 : Int) < (len : Int)) = false := decide_eq_false (by omega)
    have HE : Hid (sgFlt zss = sgFrom zss 0 zss) := by show _ = _; unfold sgFlt; rw [if_neg (by omega)]
    rcases Nat.eq_zero_or_pos len with h0 | hp
    · subst h0
      have hn : zss = [] := List.length_eq_zero_iff.1 hil
      subst hn
      clear h
      go_enter Tryd.func65, Tryd.ntmps65
      go_wp2_with fail
      refine wp_loop_rounds 1 ?_
      rw [rounds_succ]
      go_wp2_with fail
      go_ret
      exact ⟨ret_int (by rw [unhide HE]; rfl), 0, rfl⟩
    · obtain ⟨b, off, rfl, hb, hc⟩ := h.at hp
      have HC := hide hc
      have HL := hide hil
      clear h hc hil
      go_enter Tryd.func65, Tryd.ntmps65
      go_wp2_with fail
      go_loopw [3] (fun i wr => ∃ k n : Nat, k ≤ len ∧ i = .int .i64 k ∧ sgFrom zss 0 zss = sgFrom zss k (zss.drop k) ∧ wr = w.drewN n) (fun i _ => len - (intOf i).toNat)
      case atStart => exact ⟨0, 0, Nat.zero_le _, rfl, by simp, rfl⟩
      case round =>
        obtain ⟨k, n, hk, rfl, hpre, hw⟩ := hrel
        have hbw : Below w.heap.size w wr := by rw [hw]; exact below_drewN (Below.refl _ _) n
        have HW := hide hw
        clear hw
        by_cases hlt : k < len
        · obtain ⟨z, hit⟩ : ∃ z, zss[k]? = some z := ⟨_, List.getElem?_eq_getElem (by rw [unhide HL]; exact hlt)⟩
          have hst := sgFrom_step zss k z hit
          rw [← hpre] at hst
          obtain ⟨s1, n1, d1, p0, r1⟩ := ((unhide HC) k z hit).below hbw (Nat.le_refl _)
          have hzl : z.length = n1 := r1.1
          have HS := hide hst
          have i1 : (0 : Int) ≤ (k : Int) := by omega
          have i2 : (k : Int) < (len : Int) := by omega
          by_cases h4 : n1 = 4
          · have d4 : (((n1 : Nat) : Int) != 4) = false := by simp [h4]
            by_cases k0 : k = 0
            · have e : sgBad zss k z = false := by unfold sgBad; simp [hzl, h4, k0]
              rw [e, if_neg (by simp)] at HS
              have dk : decide ((0 : Int) < (k : Int)) = false := decide_eq_false (by omega)
              have dk' : decide (0 < k) = false := decide_eq_false (by omega)
              clear r1 hst hpre hit hzl e k0 h4 hbw
              go_wp2_with fail
              go_quiet (fail)
              all_goals
                go_wp2_with fail
                go_roundw
                case rel => exact ⟨k + 1, _, by omega, by go_num, unhide HS, by rw [unhide HW]; first | rfl | exact World.drewN_drewN ..⟩
                case measure => simp [intOf]; omega
            · obtain ⟨j, hj⟩ : ∃ j : Nat, k - 1 = j := ⟨_, rfl⟩
              obtain ⟨y, hiy⟩ : ∃ y, zss[j]? = some y := ⟨_, List.getElem?_eq_getElem (by rw [unhide HL]; omega)⟩
              obtain ⟨s2, n2, d2', q0, r2⟩ := ((unhide HC) j y hiy).below hbw (Nat.le_refl _)
              have hgd : zss.getD (k - 1) [] = y := by rw [hj, List.getD_eq_getElem?_getD, hiy]; rfl
              have e : sgBad zss k z = !aheadB y z := by unfold sgBad; rw [hgd, hzl, h4]; simp; omega
              rw [e] at HS
              have dk : decide ((0 : Int) < (k : Int)) = true := decide_eq_true (by omega)
              have dk' : decide (0 < k) = true := decide_eq_true (by omega)
              have j1 : (0 : Int) ≤ (j : Int) := by omega
              have j2 : (j : Int) < (len : Int) := by omega
              have hwr : IntKind.i64.wrap ((k : Int) - 1) = (j : Int) := by rw [IntKind.wrap_i64]; omega
              have HA := hide (fun (m : Nat) => l1Ahead_any s2 s1 n2 d2' n1 d1 y z (wr.drewN m) (r2.below (B := wr.heap.size) (below_drewN (Below.refl _ _) m) (Nat.le_refl _)) (r1.below (B := wr.heap.size) (below_drewN (Below.refl _ _) m) (Nat.le_refl _)))
              clear r1 r2 hst hpre hit hiy hzl hgd e k0 h4 hj hbw
              generalize aheadB y z = sb at HA HS
              cases sb
              · go_wp2_with fail
                go_quiet ((go_at_call 82; exact Calls.quiet_of_same ((unhide HA) _)))
                all_goals
                  go_wp2_with fail
                  go_ret
                  exact ⟨ret_int (by rw [unhide HE, unhide HS]; rfl), _, by rw [unhide HW]; first | rfl | exact World.drewN_drewN ..⟩
              · go_wp2_with fail
                go_quiet ((go_at_call 82; exact Calls.quiet_of_same ((unhide HA) _)))
                all_goals
                  go_wp2_with fail
                  go_roundw
                  case rel => exact ⟨k + 1, _, by omega, by go_num, by rw [unhide HS]; rfl, by rw [unhide HW]; first | rfl | exact World.drewN_drewN ..⟩
                  case measure => simp [intOf]; omega
          · have d4 : (((n1 : Nat) : Int) != 4) = true := by simp; omega
            have e : sgBad zss k z = true := by unfold sgBad; simp [hzl, h4]
            rw [e, if_pos rfl] at HS
            clear r1 hst hpre hit hzl e h4 hbw
            go_wp2_with fail
            go_quiet (fail)
            all_goals
              go_wp2_with fail
              go_ret
              exact ⟨ret_int (by rw [unhide HE, unhide HS]), _, by rw [unhide HW]; first | rfl | exact World.drewN_drewN ..⟩
        · obtain rfl : k = len := by omega
          have e := sgFrom_end zss k (by rw [unhide HL]; exact Nat.le_refl _)
          rw [e] at hpre
          have HP := hide hpre
          clear e hpre
          go_wp2_with fail
          go_ret
          exact ⟨ret_int (by rw [unhide HE, unhide HP]), n, unhide HW⟩

end Go.Proofs.YtpkfgffgldjceaaDoor

/- What is proved here: what the model's SignersFault answers. -/
namespace Go.Proofs.YtpkfgffgldjceaaDoor
open Go.RowKit
set_option linter.unusedVariables false
set_option maxRecDepth 100000

end Go.Proofs.YtpkfgffgldjceaaDoor

/- What is proved here: what someSignersFault and l7List answer; rows told by colours, as rows of bytes. -/
namespace Go.Proofs.YtpkfgffgldjceaaDoor
open Go.RowKit
set_option linter.unusedVariables false
set_option maxRecDepth 100000

set_option maxHeartbeats 1000000 in
theorem someSigners_any (s : Sl) (zss : List (List Int)) (w : World) (h : RowOk bytesK w s zss) (hl : zss.length ≤ 1048576) :
    Calls Tryd.prog 51 #[.slice s.a s.n s.c] w fun e w' => e = .returned (.int .i64 (sgSome zss)) ∧ w' = w := by
  have hn : s.n = zss.length := h.len
  have HI := hide (implSigners_any s.a s.n s.c zss w (bs_of_row h) (by omega))
  by_cases h0 : zss.length = 0
  · have HE : Hid (sgSome zss = 4) := if_pos h0
    have hz : (((s.n : Nat) : Int) == 0) = true := by rw [hn, h0]; rfl
    clear hn h h0 HI
    go_enter Tryd.func51, Tryd.ntmps51
    go_wp2_with fail
    go_ret
    exact ⟨ret_int (unhide HE).symm, rfl⟩
  · have HE : Hid (sgSome zss = sgFlt zss) := if_neg h0
    have hz : (((s.n : Nat) : Int) == 0) = false := by rw [beq_eq_false_iff_ne]; omega
    clear hn h h0
    go_enter Tryd.func51, Tryd.ntmps51
    go_wp2_with fail
    refine (unhide HI).mono ?_
    rintro e w1 ⟨rfl, rfl⟩
    go_wp2_with fail
    go_ret
    exact ⟨ret_int (unhide HE).symm, rfl⟩

set_option maxHeartbeats 1000000 in
theorem l7List_any (s : Sl) (zss : List (List Int)) (w : World) (h : RowOk bytesK w s zss) (hl : zss.length ≤ 1048576) :
    Calls Tryd.prog 42 #[.slice s.a s.n s.c] w fun e w' => e = .returned (.int .i64 (sgSome zss)) ∧ ∃ n, w' = w.drewN n := by
  have hn : s.n = zss.length := h.len
  have HI := hide (l5Signers_any s.a s.n s.c zss w (bs_of_row h) (by omega))
  by_cases h0 : zss.length = 0
  · have HE : Hid (sgSome zss = 4) := if_pos h0
    have hz : (((s.n : Nat) : Int) == 0) = true := by rw [hn, h0]; rfl
    clear hn h h0 HI
    go_enter Tryd.func42, Tryd.ntmps42
    go_wp2_with fail
    go_ret
    exact ⟨ret_int (unhide HE).symm, 0, rfl⟩
  · have HE : Hid (sgSome zss = sgFlt zss) := if_neg h0
    have hz : (((s.n : Nat) : Int) == 0) = false := by rw [beq_eq_false_iff_ne]; omega
    clear hn h h0
    go_enter Tryd.func42, Tryd.ntmps42
    go_wp2_with fail
    refine (unhide HI).mono ?_
    rintro e w1 ⟨rfl, n, rfl⟩
    go_wp2_with fail
    go_ret
    exact ⟨ret_int (unhide HE).symm, n, rfl⟩

theorem CS.nrow {B r c : Nat} {d : Nat → Nat} {w : World} {s : Sl} {zss : List (List Int)} (h : CS w B d r c s zss) (hr : ∀ i, r ≠ c + 3 * i) : RowOk bytesK w s zss := by
  obtain ⟨d', h'⟩ := row_of_cs h hr []
  exact (rowK bytesK 57).ok h'

theorem CS.nrowM {B r c : Nat} {d : Nat → Nat} {w : World} {s : Sl} {zss : List (List Int)} (h : CS w B d r c s zss) (hr : ∀ i, r ≠ c + 3 * i) : BsRow w s.a s.n zss := bs_of_row (h.nrow hr)

end Go.Proofs.YtpkfgffgldjceaaDoor

/- What is proved here: plain facts on headers in memory of their own: what a store below them leaves, and a list that grows by one slice. -/
namespace Go.Proofs.YtpkfgffgldjceaaDoor
open Go.RowKit
set_option linter.unusedVariables false
set_option maxRecDepth 100000

theorem CB.set {B j : Nat} {d : Nat → Nat} {w : World} {s : Sl} {z : List Int} {p : Addr} {v : Value} (h : CB w B d j s z) (hp : p.block < B) : CB (w.setCell p v) B d j s z := ⟨h.len, h.rng, ownsRow_setCell_below h.own hp v, h.col⟩

theorem CS.set {B r c : Nat} {d : Nat → Nat} {w : World} {s : Sl} {zss : List (List Int)} {p : Addr} {v : Value} (h : CS w B d r c s zss) (hp : p.block < B) : CS (w.setCell p v) B d r c s zss := by
  obtain ⟨h1, es, h2, h3, h4, h5⟩ := h
  exact ⟨h1, es, h2, ownsRow_setCell_below h3 hp v, h4, fun i e z he hz => (h5 i e z he hz).set hp⟩

theorem CH.set {B : Nat} {d : Nat → Nat} {w : World} {x : HS} {h : Hd} {p : Addr} {v : Value} (o : CH w B d x h) (hp : p.block < B) : CH (w.setCell p v) B d x h :=
  ⟨o.p.set hp, o.t.set hp, o.s.set hp, o.r.set hp, o.g.set hp, o.e.set hp, o.k.set hp⟩

theorem CB.recol2 {B j : Nat} {d d' : Nat → Nat} {w : World} {s : Sl} {z : List Int} (h : CB w B d j s z) (hd : ∀ g, B ≤ g → d' g = d g) : CB w B d' j s z := ⟨h.len, h.rng, h.own, fun g hg => by rw [hd g (own_lt h.own g hg).1]; exact h.col g hg⟩

theorem CS.recol2 {B r c : Nat} {d d' : Nat → Nat} {w : World} {s : Sl} {zss : List (List Int)} (h : CS w B d r c s zss) (hd : ∀ g, B ≤ g → d' g = d g) : CS w B d' r c s zss := by
  obtain ⟨h1, es, h2, h3, h4, h5⟩ := h
  exact ⟨h1, es, h2, h3, fun g hg => by rw [hd g (own_lt h3 g hg).1]; exact h4 g hg, fun i e z he hz => (h5 i e z he hz).recol2 hd⟩

theorem CH.recol2 {B : Nat} {d d' : Nat → Nat} {w : World} {x : HS} {h : Hd} (o : CH w B d x h) (hd : ∀ g, B ≤ g → g < w.heap.size → d' g = d g) : CH w B d' x h := by
  have key : ∀ {j : Nat} {s : Sl} {z : List Int}, CB w B d j s z → CB w B d' j s z := fun h => ⟨h.len, h.rng, h.own, fun g hg => by rw [hd g (own_lt h.own g hg).1 (own_lt h.own g hg).2]; exact h.col g hg⟩
  have keyS : ∀ {r c : Nat} {s : Sl} {zss : List (List Int)}, CS w B d r c s zss → CS w B d' r c s zss := fun h => by
    obtain ⟨h1, es, h2, h3, h4, h5⟩ := h
    exact ⟨h1, es, h2, h3, fun g hg => by rw [hd g (own_lt h3 g hg).1 (own_lt h3 g hg).2]; exact h4 g hg, fun i e z he hz => key (h5 i e z he hz)⟩
  exact ⟨key o.p, key o.t, keyS o.s, key o.r, key o.g, key o.e, keyS o.k⟩

theorem own_set9 {B : Nat} {w : World} {e : TypeId} {size n : Nat} {v : Value} {xs : List Value} {p : Addr} {u : Value} (h : w.ownsRow B e size v n xs) (hne : ∀ g, v.ownBlock = some g → g ≠ p.block) : (w.setCell p u).ownsRow B e size v n xs := by
  refine ⟨h.1, ?_⟩
  rcases h.2 with h' | ⟨g, cap, cur, h1, h2, h3, h4⟩
  · exact .inl h'
  · exact .inr ⟨g, cap, cur, h1, h2, (heap_setCell_other w p g u (hne g (by rw [h1]; rfl))).trans h3, h4⟩

theorem CB.set9 {B j : Nat} {d : Nat → Nat} {w : World} {s : Sl} {z : List Int} {p : Addr} {v : Value} (h : CB w B d j s z) (hp : d p.block ≠ j) : CB (w.setCell p v) B d j s z := ⟨h.len, h.rng, own_set9 h.own (fun g hg e => hp (by rw [← e]; exact h.col g hg)), h.col⟩

theorem CS.set9 {B r c : Nat} {d : Nat → Nat} {w : World} {s : Sl} {zss : List (List Int)} {p : Addr} {v : Value} (h : CS w B d r c s zss) (hr : d p.block ≠ r) (hc : ∀ i, d p.block ≠ c + 3 * i) : CS (w.setCell p v) B d r c s zss := by
  obtain ⟨h1, es, h2, h3, h4, h5⟩ := h
  exact ⟨h1, es, h2, own_set9 h3 (fun g hg e => hr (by rw [← e]; exact h4 g hg)), h4, fun i e z he hz => (h5 i e z he hz).set9 (hc i)⟩

theorem CH.set9 {B : Nat} {d : Nat → Nat} {w : World} {x : HS} {h : Hd} {p : Addr} {v : Value} (o : CH w B d x h) (hp : d p.block = 9) : CH (w.setCell p v) B d x h :=
  ⟨o.p.set9 (by omega), o.t.set9 (by omega), o.s.set9 (by omega) (fun i => by omega), o.r.set9 (by omega), o.g.set9 (by omega), o.e.set9 (by omega), o.k.set9 (by omega) (fun i => by omega)⟩

theorem CS.mkSnoc {B r c : Nat} {d : Nat → Nat} {w w2 : World} {s : Sl} {zss : List (List Int)} {es : List Sl} {e : Sl} {z : List Int} {a' : Option Addr} {c' : Nat} (hr : ∀ i, r ≠ c + 3 * i) (hB : B ≤ w.heap.size) (h1 : s.n = zss.length) (h2 : es.length = zss.length)
    (h3 : w.ownsRow B 57 1 (.slice s.a s.n s.c) s.n (es.map Sl.v)) (h4 : ∀ g, (Value.slice s.a s.n s.c).ownBlock = some g → d g = r) (h5 : ∀ (i : Nat) (e : Sl) (z : List Int), es[i]? = some e → zss[i]? = some z → CB w B d (c + 3 * i) e z)
    (he : CB w B d (c + 3 * zss.length) e z) (o2 : w2.ownsRow B 57 1 (.slice a' (s.n + 1) c') (s.n + 1) (es.map Sl.v ++ [e.v])) (hg : w.grownBy w2 (Value.slice s.a s.n s.c).ownBlock)
    (hblk : (Value.slice a' (s.n + 1) c').ownBlock = (Value.slice s.a s.n s.c).ownBlock ∨ (Value.slice a' (s.n + 1) c').ownBlock = some w.heap.size) :
    CS w2 B (fun g => if w.heap.size ≤ g then r else d g) r c ⟨a', s.n + 1, c'⟩ (zss ++ [z]) ∧ OnlyD B (fun g => if w.heap.size ≤ g then r else d g) (fun q => q = r) w w2 := by
  have hdg : ∀ q, q < w.heap.size → (if w.heap.size ≤ q then r else d q) = d q := fun q hq => if_neg (by omega)
  have on : OnlyD B (fun q => if w.heap.size ≤ q then r else d q) (fun q => q = r) w w2 := OnlyD.grown hg hB (fun q e => ⟨(own_lt h3 q e).1, by rw [hdg q (own_lt h3 q e).2]; exact h4 q e⟩)
  refine ⟨⟨by simp [h1], es ++ [e], by simp [h2], by rw [List.map_append]; exact o2, fun g hgq => ?_, fun i e' z' he' hz' => ?_⟩, on⟩
  · rcases hblk with hb | hb
    · have hgq' : (Value.slice s.a s.n s.c).ownBlock = some g := by rw [← hb]; exact hgq
      show (if w.heap.size ≤ g then r else d g) = r
      rw [hdg g (own_lt h3 g hgq').2]; exact h4 g hgq'
    · have hgq' : some w.heap.size = some g := by rw [← hb]; exact hgq
      obtain rfl := Option.some.inj hgq'
      exact if_pos (Nat.le_refl _)
  · by_cases hi : i < zss.length
    · rw [List.getElem?_append_left (by omega)] at he' hz'
      exact ((h5 i e' z' he' hz').recol hdg).only on (fun q => hr i q.symm)
    · have hi2 : i = zss.length := by
        have := (List.getElem?_eq_some_iff.1 hz').1
        simp at this
        omega
      subst hi2
      rw [List.getElem?_append_right (by omega), h2, Nat.sub_self] at he'
      rw [List.getElem?_append_right (Nat.le_refl _), Nat.sub_self] at hz'
      simp at he' hz'
      subst he' hz'
      exact (he.recol hdg).only on (fun q => hr _ q.symm)

end Go.Proofs.YtpkfgffgldjceaaDoor

/- What is proved here: the model's copy of bytes gives the same bytes in new memory. -/
namespace Go.Proofs.YtpkfgffgldjceaaDoor
open Go.RowKit
set_option linter.unusedVariables false
set_option maxRecDepth 100000

end Go.Proofs.YtpkfgffgldjceaaDoor

/- What is proved here: bytes appended to a row that the call owns, whatever slice they come from, told in one law for the walk; it holds for every program. -/
namespace Go.Proofs.YtpkfgffgldjceaaDoor
open Go.RowKit
set_option linter.unusedVariables false
set_option maxRecDepth 100000

theorem wpList_append_brow {P : Program} (w : World) {ops : Array Oper} {rest : List Oper} {o : Oper} {a : Act} {Q : Exit → Act → World → Prop} (hgd : o.guard = none) (s x : Operand) (t : TypeId)
    (ho : o.op = .call { callee := .builtin .append, args := #[s, x], argTypes := #[t, t] }) (base : Nat) (i : TypeInfo) (ht : P.underlying t = some (.slice 5)) (hi : P.info? 5 = some i) (hz : i.zero = some (.int .u8 0)) (hsize : i.size = 1) (hby : i.bytes = 1)
    (v : Value) (n : Nat) (xs : List Int) (hs : a.eval s = v) (hown : w.ownsRow base 5 1 v n (xs.map (Value.int .u8))) (ad : Option Addr) (m c : Nat) (zs : List Int) (hx : a.eval x = .slice ad m c) (hr : BRow w ad m zs) (hc : ad = none → c = 0)
    (h63 : n + m ≤ 1099511627776) (hbase : base ≤ w.heap.size)
    (h : ∀ a' c' w', w'.ownsRow base 5 1 (.slice a' (n + m) c') (n + m) ((xs ++ zs).map (Value.int .u8)) → w.grownBy w' v.ownBlock → wpList P ops Q rest (a.put o.dst (.slice a' (n + m) c')) w') : wpList P ops Q (o :: rest) a w := by
  cases ad with
  | none =>
    obtain rfl : m = 0 := hr.2.2.1 rfl
    obtain rfl : zs = [] := List.length_eq_zero_iff.1 hr.1
    obtain rfl : c = 0 := hc rfl
    refine wpList_append_own_none hgd s x t ho base 5 i 1 ht hi v n _ hs hown hx ?_
    obtain ⟨a', c', hv⟩ := own_shape hown
    have := h a' c' w (by rw [Nat.add_zero, List.append_nil, ← hv]; exact hown) (grownBy_refl w _)
    rw [Nat.add_zero, ← hv] at this
    exact this
  | some ad =>
    refine wpList_append_own w hgd s x t ho base 5 i (.int .u8 0) 1 1 ht hi hz hsize hby rfl (by decide) v n _ hs hown ad m c (zs.map (Value.int .u8)) hx (by simp [hr.1]) ?_ ?_ ?_ ?_ hbase ?_
    · intro j u hj
      have hjl : j < zs.length := by have := (List.getElem?_eq_some_iff.1 hj).1; simpa using this
      rw [hr.2.2.2 ad rfl j (by rw [← hr.1]; exact hjl)]
      rw [List.getElem?_map, List.getElem?_eq_getElem hjl] at hj
      rw [getD_at _ _ hjl]
      exact hj
    · intro u hu; obtain ⟨z, _, rfl⟩ := List.mem_map.1 hu; rfl
    · unfold maxLen; omega
    · omega
    · intro v' w' hown' hg _
      obtain ⟨a', c', hv⟩ := own_shape hown'
      rw [hv] at hown' ⊢
      exact h a' c' w' (by rw [List.map_append]; exact hown') hg

/-- What is owned is no bare nil of some room. -/
theorem own_cap {w : World} {B n cap : Nat} {a : Option Addr} {e : TypeId} {xs : List Value} {size : Nat} (h : w.ownsRow B e size (.slice a n cap) n xs) : a = none → cap = 0 := by
  intro ha
  rcases h.2 with ⟨h', _⟩ | ⟨g, cap', cur, h', _⟩
  · simp only [Value.slice.injEq] at h'; exact h'.2.2
  · simp only [Value.slice.injEq] at h'; rw [ha] at h'; simp at h'

end Go.Proofs.YtpkfgffgldjceaaDoor

/- What is proved here: what the model's l5Lists answers: the same list in memory of its own, down to the bytes. -/
namespace Go.Proofs.YtpkfgffgldjceaaDoor
open Go.RowKit
set_option linter.unusedVariables false
set_option maxRecDepth 100000

theorem one_at (w : World) (x : Value) (t : TypeId) : ∀ (j : Nat) (u : Value), [x][j]? = some u → (w.alloc (.cells #[x] t)).cell? ((⟨w.heap.size, 0, none⟩ : Addr).add j) = some u := by
  intro j u hj
  rw [add_none, Nat.zero_add, World.cell?_alloc_new]
  match j, hj with
  | 0, hj => simpa using hj

end Go.Proofs.YtpkfgffgldjceaaDoor

/- What is proved here: what the model's l7Copy answers: a snapshot that reads as the given one. -/
namespace Go.Proofs.YtpkfgffgldjceaaDoor
open Go.RowKit
set_option linter.unusedVariables false
set_option maxRecDepth 100000

theorem infoRc : (Tryd.prog.info? 60).map (fun i => (i.zero, i.size, i.bytes)) = some (some (.agg #[.int .i64 0, .slice none 0 0]), 2, 32) := by kernel_rfl
theorem infoVt : (Tryd.prog.info? 62).map (fun i => (i.zero, i.size, i.bytes)) = some (some (.agg #[.slice none 0 0, .slice none 0 0, .bool false]), 3, 56) := by kernel_rfl

theorem two_at (w : World) (x y : Value) (t : TypeId) : ∀ (j : Nat) (u : Value), [x, y][j]? = some u → (w.alloc (.cells #[x, y] t)).cell? ((⟨w.heap.size, 0, none⟩ : Addr).add j) = some u := by
  intro j u hj
  rw [add_none, Nat.zero_add, World.cell?_alloc_new]
  match j, hj with
  | 0, hj => simpa using hj
  | 1, hj => simpa using hj

theorem three_at (w : World) (x y z : Value) (t : TypeId) : ∀ (j : Nat) (u : Value), [x, y, z][j]? = some u → (w.alloc (.cells #[x, y, z] t)).cell? ((⟨w.heap.size, 0, none⟩ : Addr).add j) = some u := by
  intro j u hj
  rw [add_none, Nat.zero_add, World.cell?_alloc_new]
  match j, hj with
  | 0, hj => simpa using hj
  | 1, hj => simpa using hj
  | 2, hj => simpa using hj

/-- The copy of a snapshot while its recents are copied: gs its block, W5 the world ahead of it. -/
structure RcInv (W6 : World) (C gs B : Nat) (n : Int) (sg : Sl) (rs : List Rc) (k : Nat) (W : World) (s : Sl) (d : Nat → Path) : Prop where
  blk : SBlk W gs [.int .i64 n, .slice sg.a sg.n sg.c, .slice s.a s.n s.c, .slice none 0 0] 34
  row : RowG rcK 60 W B d [] s (rs.take k)
  keep : ∀ g, g < B → g ≠ gs → W.heap[g]? = W6.heap[g]?
  old : Below C W6 W
  size : B ≤ W.heap.size
  gsB : gs < B
  low : C ≤ gs

theorem RcInv.below {W6 W W' : World} {C gs B : Nat} {n : Int} {sg : Sl} {rs : List Rc} {k : Nat} {s : Sl} {d : Nat → Path} (h : RcInv W6 C gs B n sg rs k W s d) (hb : Below W.heap.size W W') : RcInv W6 C gs B n sg rs k W' s d :=
  ⟨h.blk.below hb h.blk.lt, h.row.below hb (Nat.le_refl _), fun g a b => (hb.block g (Nat.lt_of_lt_of_le a h.size)).trans (h.keep g a b), h.old.trans (hb.mono (by have := h.blk.lt; have := h.low; omega)), Nat.le_trans h.size hb.size, h.gsB, h.low⟩

/-- One more recent. -/
theorem RcInv.step {W6 W W1 WA W2 : World} {C gs B : Nat} {n : Int} {sg : Sl} {rs : List Rc} {k : Nat} {s : Sl} {d : Nat → Path} {q : Int} {z : List Int} {a1 : Option Addr} {n1 c1 : Nat} {g2 cap2 : Nat} {es : List RcS}
    (h : RcInv W6 C gs B n sg rs k W s d) (hk : rs[k]? = some (q, z)) (hq : in64 q) (hz : ∀ x ∈ z, 0 ≤ x ∧ x ≤ 255)
    (ho : W1.ownsRow W.heap.size 5 1 (.slice a1 n1 c1) n1 (z.map (Value.int .u8))) (hb : Below W.heap.size W W1) (bA : Below W1.heap.size W1 WA)
    (e2 : es.length = (rs.take k).length) (e4 : ∀ i e x, es[i]? = some e → (rs.take k)[i]? = some x → rcK.Own W B d ([] ++ [i]) e x)
    (hown : W2.ownsRow B 60 2 (.slice (some ⟨g2, 0, none⟩) (s.n + 1) cap2) (s.n + 1) (flatV rcK es (rs.take k) ++ [.int .i64 q, .slice a1 n1 c1])) (hg : WA.grownBy W2 (Value.slice s.a s.n s.c).ownBlock) (hat : (Value.slice s.a s.n s.c).ownBlock = some g2 ∨ g2 = WA.heap.size) :
    (∃ u, W2.cell? ⟨gs, 2, none⟩ = some u) ∧ W2.frozen? ⟨gs, 2, none⟩ = false ∧ Below C W6 W2 ∧ ∃ d', RcInv W6 C gs B n sg rs (k + 1) (W2.setCell ⟨gs, 2, none⟩ (.slice (some ⟨g2, 0, none⟩) (s.n + 1) cap2)) ⟨some ⟨g2, 0, none⟩, s.n + 1, cap2⟩ d' := by
  have hts : rs.take (k + 1) = rs.take k ++ [(q, z)] := by obtain ⟨hk', e'⟩ := List.getElem?_eq_some_iff.1 hk; rw [List.take_succ_eq_append_getElem hk', e']
  have htl : (rs.take k).length = k := by rw [List.length_take]; have := (List.getElem?_eq_some_iff.1 hk).1; omega
  have hgs := h.blk.lt
  have hB := h.size
  have hgB := h.gsB
  have hlo := h.low
  have b0A : Below W.heap.size W WA := hb.trans (bA.mono hb.size)
  obtain ⟨d1, hd1⟩ : ∃ d1 : Nat → Path, d1 = fun g => if W.heap.size ≤ g then [k, 1] else d g := ⟨_, rfl⟩
  have hdo : ∀ g, g < W.heap.size → d1 g = d g := fun g hg => by rw [hd1]; exact if_neg (by omega)
  have own1 : rcK.Own WA B d1 ([] ++ [(rs.take k).length]) ((), ⟨a1, n1, c1⟩) (q, z) := by
    rw [htl]
    refine ⟨hq, hz, ?_, fun x hx => ?_⟩
    · exact ownsRow_base (own_below ho bA (Nat.le_refl _)) hB
    · have hx' : a1 = some x := hx
      have := (ho.lt x.block (by rw [hx']; rfl)).1
      rw [hd1]
      exact if_pos this
  have hrow := h.row
  have h4' : ∀ x, s.a = some x → d1 x.block = [] := fun x hx => by
    rw [hdo _ (hrow.blk hx).2]
    obtain ⟨_, es', _, _, q4, _⟩ := hrow
    exact q4 x hx
  have S := RowG.snoc (K := rcK) (w := WA) (d := d1) (p := []) (s := s) hrow.len e2 h4' (fun i e x he hx => rcK.ownBelow (rcK.recolNew (e4 i e x he hx) hdo) b0A (Nat.le_refl _)) own1 hown hg hat
  rw [← hts] at S
  have hob : ∀ g, (Value.slice s.a s.n s.c).ownBlock = some g → B ≤ g := fun g hg' => by
    cases ha : s.a with
    | none => rw [ha] at hg'; cases hg'
    | some y => rw [ha] at hg'; obtain rfl := Option.some.inj hg'; exact (hrow.blk ha).1
  have kA := h.blk.below b0A hgs
  have hsA := b0A.size
  have k2 : SBlk W2 gs [.int .i64 n, .slice sg.a sg.n sg.c, .slice s.a s.n s.c, .slice none 0 0] 34 := (hg.block gs kA.lt (fun e => by have := hob gs e.symm; omega)).trans kA
  have f5 : Below C W6 W2 := (h.old.trans (b0A.mono (by omega))).grown hg (by omega) (fun g e => by have := hob g e; omega)
  refine ⟨⟨_, k2.cell 2⟩, k2.free 2, f5, _, ⟨k2.set 2 _, S.set hgB, fun g a b => ?_, ?_, ?_, hgB, hlo⟩⟩
  · rw [heap_setCell_other W2 ⟨gs, 2, none⟩ g _ (fun e => b e)]
    rw [hg.block g (by omega) (fun e => by have := hob g e.symm; omega), b0A.block g (by omega)]
    exact h.keep g a b
  · exact f5.setCell (p := ⟨gs, 2, none⟩) hlo _
  · have := hg.size
    simp [World.setCell]
    omega

/-- A snapshot in the block gs while votes are appended to its own: W0 the world ahead of them, B where their memory begins. -/
structure VtInv (W0 : World) (C gs B : Nat) (v0 v1 v2 : Value) (ys : List Vt) (W : World) (s : Sl) (d : Nat → Path) : Prop where
  blk : SBlk W gs [v0, v1, v2, .slice s.a s.n s.c] 34
  row : RowG vtK 62 W B d [] s ys
  keep : ∀ g, g < B → g ≠ gs → W.heap[g]? = W0.heap[g]?
  old : Below C W0 W
  size : B ≤ W.heap.size
  gsB : gs < B
  low : C ≤ gs

theorem VtInv.below {W0 W W' : World} {C gs B : Nat} {v0 v1 v2 : Value} {ys : List Vt} {s : Sl} {d : Nat → Path} (h : VtInv W0 C gs B v0 v1 v2 ys W s d) (hb : Below W.heap.size W W') : VtInv W0 C gs B v0 v1 v2 ys W' s d :=
  ⟨h.blk.below hb h.blk.lt, h.row.below hb (Nat.le_refl _), fun g a b => (hb.block g (Nat.lt_of_lt_of_le a h.size)).trans (h.keep g a b), h.old.trans (hb.mono (by have := h.blk.lt; have := h.low; omega)), Nat.le_trans h.size hb.size, h.gsB, h.low⟩

/-- One more vote: its two slices are new. -/
theorem VtInv.step {W0 W W1 W1' WA W2 : World} {C gs B : Nat} {v0 v1 v2 : Value} {ys : List Vt} {s : Sl} {d : Nat → Path} {y z : List Int} {q : Bool} {a1 a2 : Option Addr} {n1 c1 n2 c2 : Nat} {g2 cap2 : Nat} {es : List VtS}
    (h : VtInv W0 C gs B v0 v1 v2 ys W s d) (hy : ∀ x ∈ y, 0 ≤ x ∧ x ≤ 255) (hz : ∀ x ∈ z, 0 ≤ x ∧ x ≤ 255)
    (ho : W1.ownsRow W.heap.size 5 1 (.slice a1 n1 c1) n1 (y.map (Value.int .u8))) (hb : Below W.heap.size W W1)
    (ho2 : W1'.ownsRow W1.heap.size 5 1 (.slice a2 n2 c2) n2 (z.map (Value.int .u8))) (hb2 : Below W1.heap.size W1 W1') (bA : Below W1'.heap.size W1' WA)
    (e2 : es.length = ys.length) (e4 : ∀ i e x, es[i]? = some e → ys[i]? = some x → vtK.Own W B d ([] ++ [i]) e x)
    (hown : W2.ownsRow B 62 3 (.slice (some ⟨g2, 0, none⟩) (s.n + 1) cap2) (s.n + 1) (flatV vtK es ys ++ [.slice a1 n1 c1, .slice a2 n2 c2, .bool q])) (hg : WA.grownBy W2 (Value.slice s.a s.n s.c).ownBlock) (hat : (Value.slice s.a s.n s.c).ownBlock = some g2 ∨ g2 = WA.heap.size) :
    (∃ u, W2.cell? ⟨gs, 3, none⟩ = some u) ∧ W2.frozen? ⟨gs, 3, none⟩ = false ∧ Below C W0 W2 ∧ ∃ d', VtInv W0 C gs B v0 v1 v2 (ys ++ [(y, z, q)]) (W2.setCell ⟨gs, 3, none⟩ (.slice (some ⟨g2, 0, none⟩) (s.n + 1) cap2)) ⟨some ⟨g2, 0, none⟩, s.n + 1, cap2⟩ d' := by
  have hgs := h.blk.lt
  have hB := h.size
  have hgB := h.gsB
  have hlo := h.low
  have b01 : Below W.heap.size W W1' := hb.trans (hb2.mono hb.size)
  have b0A : Below W.heap.size W WA := b01.trans (bA.mono b01.size)
  have hs1 := hb.size
  have hs2 := hb2.size
  obtain ⟨d1, hd1⟩ : ∃ d1 : Nat → Path, d1 = fun g => if W1.heap.size ≤ g then [ys.length, 1, 0] else if W.heap.size ≤ g then [ys.length, 0] else d g := ⟨_, rfl⟩
  have hdo : ∀ g, g < W.heap.size → d1 g = d g := fun g hg => by rw [hd1]; show (if _ then _ else _) = _; rw [if_neg (by omega), if_neg (by omega)]
  have own1 : vtK.Own WA B d1 ([] ++ [ys.length]) (⟨a1, n1, c1⟩, ⟨a2, n2, c2⟩, ()) (y, z, q) := by
    refine ⟨⟨hy, ?_, fun x hx => ?_⟩, ⟨hz, ?_, fun x hx => ?_⟩, trivial⟩
    · exact ownsRow_base (own_below (own_below ho hb2 (Nat.le_refl _)) bA (Nat.le_refl _)) hB
    · have hx' : a1 = some x := hx
      have l := ho.lt x.block (by rw [hx']; rfl)
      rw [hd1]
      show (if _ then _ else _) = _
      rw [if_neg (by omega), if_pos l.1]
      rfl
    · exact ownsRow_base (own_below ho2 bA (Nat.le_refl _)) (by omega)
    · have hx' : a2 = some x := hx
      have l := (ho2.lt x.block (by rw [hx']; rfl)).1
      rw [hd1]
      show (if _ then _ else _) = _
      rw [if_pos l]
      rfl
  have hrow := h.row
  have h4' : ∀ x, s.a = some x → d1 x.block = [] := fun x hx => by
    rw [hdo _ (hrow.blk hx).2]
    obtain ⟨_, es', _, _, q4, _⟩ := hrow
    exact q4 x hx
  have S := RowG.snoc (K := vtK) (w := WA) (d := d1) (p := []) (s := s) hrow.len e2 h4' (fun i e x he hx => vtK.ownBelow (vtK.recolNew (e4 i e x he hx) hdo) b0A (Nat.le_refl _)) own1 hown hg hat
  have hob : ∀ g, (Value.slice s.a s.n s.c).ownBlock = some g → B ≤ g := fun g hg' => by
    cases ha : s.a with
    | none => rw [ha] at hg'; cases hg'
    | some y => rw [ha] at hg'; obtain rfl := Option.some.inj hg'; exact (hrow.blk ha).1
  have kA := h.blk.below b0A hgs
  have hsA := b0A.size
  have k2 : SBlk W2 gs [v0, v1, v2, .slice s.a s.n s.c] 34 := (hg.block gs kA.lt (fun e => by have := hob gs e.symm; omega)).trans kA
  have f5 : Below C W0 W2 := (h.old.trans (b0A.mono (by omega))).grown hg (by omega) (fun g e => by have := hob g e; omega)
  refine ⟨⟨_, k2.cell 3⟩, k2.free 3, f5, _, ⟨k2.set 3 _, S.set hgB, fun g a b => ?_, ?_, ?_, hgB, hlo⟩⟩
  · rw [heap_setCell_other W2 ⟨gs, 3, none⟩ g _ (fun e => b e)]
    rw [hg.block g (by omega) (fun e => by have := hob g e.symm; omega), b0A.block g (by omega)]
    exact h.keep g a b
  · exact f5.setCell (p := ⟨gs, 3, none⟩) hlo _
  · have := hg.size
    simp [World.setCell]
    omega

/-- A copy that has its number and its signers alone, in the block gs of the world W6. -/
structure CpW (W0 W6 : World) (gs : Nat) (n : Int) (s5 : Sl) (zss : List (List Int)) : Prop where
  blk : SBlk W6 gs [.int .i64 n, .slice s5.a s5.n s5.c, .slice none 0 0, .slice none 0 0] 34
  low : W0.heap.size ≤ gs
  old : Below W0.heap.size W0 W6
  sgn : ∀ W : World, (∀ g, W0.heap.size ≤ g → g < W6.heap.size → g ≠ gs → W.heap[g]? = W6.heap[g]?) → RowOk bytesK W s5 zss

theorem cpw_late {W0 w5 : World} {d5 : Nat → Nat} {n : Int} {s5 : Sl} {zss : List (List Int)} (r5 : CS w5 W0.heap.size d5 6 8 s5 zss) (J5 : Below W0.heap.size W0 w5) :
    CpW W0 (w5.alloc (.cells #[.int .i64 n, .slice s5.a s5.n s5.c, .slice none 0 0, .slice none 0 0] 34)) w5.heap.size n s5 zss := by
  refine ⟨SBlk.new w5 #[.int .i64 n, .slice s5.a s5.n s5.c, .slice none 0 0, .slice none 0 0] 34, J5.size, J5.alloc J5.size _, fun W hW => ?_⟩
  obtain ⟨d', h'⟩ := row_of_cs r5 (by intro i; omega) []
  refine (rowK bytesK 57).ok (RowPart.frame h' (fun g hg hB _ => ?_))
  rw [hW g hB (by simp; omega) (by omega)]
  exact (below_alloc w5 _).block g hg

theorem cpw_early {W0 w5 : World} {d5 : Nat → Nat} {n : Int} {s5 : Sl} {zss : List (List Int)} (r5 : CS w5 (W0.heap.size + 1) d5 6 8 s5 zss) (J5 : Below W0.heap.size W0 w5) (kz : SBlk w5 W0.heap.size [.int .i64 0, .slice none 0 0, .slice none 0 0, .slice none 0 0] 34) :
    CpW W0 ((((w5.setCell ⟨W0.heap.size, 0, none⟩ (.int .i64 n)).setCell ⟨W0.heap.size, 1, none⟩ (.slice s5.a s5.n s5.c)).setCell ⟨W0.heap.size, 2, none⟩ (.slice none 0 0)).setCell ⟨W0.heap.size, 3, none⟩ (.slice none 0 0)) W0.heap.size n s5 zss := by
  have k := (((kz.set 0 (.int .i64 n)).set 1 (.slice s5.a s5.n s5.c)).set 2 (.slice none 0 0)).set 3 (.slice none 0 0)
  refine ⟨k, Nat.le_refl _, ?_, fun W hW => ?_⟩
  · exact (((J5.setCell (p := ⟨W0.heap.size, 0, none⟩) (Nat.le_refl _) _).setCell (p := ⟨W0.heap.size, 1, none⟩) (Nat.le_refl _) _).setCell (p := ⟨W0.heap.size, 2, none⟩) (Nat.le_refl _) _).setCell (p := ⟨W0.heap.size, 3, none⟩) (Nat.le_refl _) _
  · obtain ⟨d', h'⟩ := row_of_cs r5 (by intro i; omega) []
    refine (rowK bytesK 57).ok (RowPart.frame h' (fun g hg hB _ => ?_))
    rw [hW g (by omega) (by simp [World.setCell]; exact hg) (by omega)]
    rw [heap_setCell_other _ ⟨W0.heap.size, 3, none⟩ g _ (fun e => by simp at e; omega), heap_setCell_other _ ⟨W0.heap.size, 2, none⟩ g _ (fun e => by simp at e; omega), heap_setCell_other _ ⟨W0.heap.size, 1, none⟩ g _ (fun e => by simp at e; omega), heap_setCell_other _ ⟨W0.heap.size, 0, none⟩ g _ (fun e => by simp at e; omega)]

end Go.Proofs.YtpkfgffgldjceaaDoor

/- What is proved here: how a key of the program's poll reads, and the laws of its map that the walks take. -/
namespace Go.Proofs.YtpkfgffgldjceaaDoor
open Go.RowKit
set_option linter.unusedVariables false
set_option maxRecDepth 100000

theorem laidOutP : laidOutB Tryd.prog = true := by kernel_rfl

theorem ballotLaw : Maps.Keyed Tryd.prog 128 := Maps.Keyed.of_law (deep_law_laid laidOutP (m := 4) (by omega) (of_decide_eq_true (by kernel_rfl)) (by kernel_rfl) (by kernel_rfl))

/-- What a key reads as. -/
def klOf (s t : List Int) : Lit := .string (Lib.bytesOf (s ++ t))

theorem wf_u8 {z : Int} (h : 0 ≤ z ∧ z ≤ 255) : (Lit.int .u8 z).wf = true := by
  have e1 : IntKind.u8.min = 0 := rfl
  have e2 : IntKind.u8.max = 255 := rfl
  simp [Lit.wf, e1, e2]
  omega

theorem keyLits_u8 (d : Nat) {z : Int} (h : 0 ≤ z ∧ z ≤ 255) : Tryd.prog.keyLits (d + 1) 5 [.int .u8 z] = some [.int .u8 z] := by
  unfold Program.keyLits
  rw [Tryd.underlying5]
  simp [wf_u8 h]

theorem cellsU8 : Tryd.prog.cellsOf 5 = 1 := by kernel_rfl
theorem cellsAddr : Tryd.prog.cellsOf 126 = 4 := by kernel_rfl
theorem cellsBallot : Tryd.prog.cellsOf 128 = 8 := by kernel_rfl

theorem keyLits_addr (d : Nat) {z0 z1 z2 z3 : Int} (h0 : 0 ≤ z0 ∧ z0 ≤ 255) (h1 : 0 ≤ z1 ∧ z1 ≤ 255) (h2 : 0 ≤ z2 ∧ z2 ≤ 255) (h3 : 0 ≤ z3 ∧ z3 ≤ 255) :
    Tryd.prog.keyLits (d + 2) 126 [.int .u8 z0, .int .u8 z1, .int .u8 z2, .int .u8 z3] = some [.int .u8 z0, .int .u8 z1, .int .u8 z2, .int .u8 z3] := by
  unfold Program.keyLits
  rw [Tryd.underlying126]
  simp only [cellsU8, cellsAddr]
  have e : List.range 4 = [0, 1, 2, 3] := rfl
  rw [e]
  simp [keyLits_u8 d h0, keyLits_u8 d h1, keyLits_u8 d h2, keyLits_u8 d h3]

theorem keyLits_ballot (d : Nat) {z0 z1 z2 z3 y0 y1 y2 y3 : Int} (h0 : 0 ≤ z0 ∧ z0 ≤ 255) (h1 : 0 ≤ z1 ∧ z1 ≤ 255) (h2 : 0 ≤ z2 ∧ z2 ≤ 255) (h3 : 0 ≤ z3 ∧ z3 ≤ 255) (h4 : 0 ≤ y0 ∧ y0 ≤ 255) (h5 : 0 ≤ y1 ∧ y1 ≤ 255) (h6 : 0 ≤ y2 ∧ y2 ≤ 255) (h7 : 0 ≤ y3 ∧ y3 ≤ 255) :
    Tryd.prog.keyLits (d + 3) 128 [.int .u8 z0, .int .u8 z1, .int .u8 z2, .int .u8 z3, .int .u8 y0, .int .u8 y1, .int .u8 y2, .int .u8 y3] = some [.int .u8 z0, .int .u8 z1, .int .u8 z2, .int .u8 z3, .int .u8 y0, .int .u8 y1, .int .u8 y2, .int .u8 y3] := by
  unfold Program.keyLits
  rw [Tryd.underlying128]
  simp [cellsBallot, cellsAddr, keyLits_addr d h0 h1 h2 h3, keyLits_addr d h4 h5 h6 h7]

theorem keyByte {z : Int} (h : 0 ≤ z ∧ z ≤ 255) : Lit.keyBytes (.int .u8 z) = [UInt8.ofNat z.toNat] := by
  have e : (z % 2 ^ 8).toNat = z.toNat := by omega
  show bytesBE 1 (z % 2 ^ 8).toNat = _
  rw [e]
  simp only [bytesBE, bytesLE, List.reverse_cons, List.reverse_nil, List.nil_append]
  rw [Nat.mod_eq_of_lt (by omega)]

theorem typesSize : Tryd.prog.types.size = 176 := by kernel_rfl

theorem keyOf_ballot {z0 z1 z2 z3 y0 y1 y2 y3 : Int} (h0 : 0 ≤ z0 ∧ z0 ≤ 255) (h1 : 0 ≤ z1 ∧ z1 ≤ 255) (h2 : 0 ≤ z2 ∧ z2 ≤ 255) (h3 : 0 ≤ z3 ∧ z3 ≤ 255) (h4 : 0 ≤ y0 ∧ y0 ≤ 255) (h5 : 0 ≤ y1 ∧ y1 ≤ 255) (h6 : 0 ≤ y2 ∧ y2 ≤ 255) (h7 : 0 ≤ y3 ∧ y3 ≤ 255) :
    keyOf Tryd.prog 128 (.agg #[.int .u8 z0, .int .u8 z1, .int .u8 z2, .int .u8 z3, .int .u8 y0, .int .u8 y1, .int .u8 y2, .int .u8 y3]) = some (klOf [z0, z1, z2, z3] [y0, y1, y2, y3]) := by
  have k1 : Tryd.prog.keyType 128 = true := by kernel_rfl
  unfold keyOf
  rw [Tryd.underlying128]
  simp only [k1, Value.formed, Tryd.underlying128, cellsBallot, typesSize]
  have e := keyLits_ballot (176 - 2) h0 h1 h2 h3 h4 h5 h6 h7
  simp only [Nat.reduceSub, Nat.reduceAdd] at e ⊢
  simp only [Value.cells, List.size_toArray, List.length_cons, List.length_nil, Nat.reduceAdd, BEq.rfl, Bool.and_self, if_true]
  rw [e]
  simp only [Option.map_some, keyBytes, List.flatMap_cons, List.flatMap_nil, keyByte h0, keyByte h1, keyByte h2, keyByte h3, keyByte h4, keyByte h5, keyByte h6, keyByte h7]
  rfl

/-- Two keys are the same just where both parts are. -/
theorem klOf_inj {s t s' t' : List Int} (hs : s.length = s'.length) (h1 : ∀ x ∈ s, 0 ≤ x ∧ x ≤ 255) (h2 : ∀ x ∈ t, 0 ≤ x ∧ x ≤ 255) (h3 : ∀ x ∈ s', 0 ≤ x ∧ x ≤ 255) (h4 : ∀ x ∈ t', 0 ≤ x ∧ x ≤ 255) (h : klOf s t = klOf s' t') : s = s' ∧ t = t' := by
  unfold klOf at h
  simp only [Lit.string.injEq] at h
  have e := bytesOf_inj (s ++ t) (s' ++ t') (fun x hx => (List.mem_append.1 hx).elim (h1 x) (h2 x)) (fun x hx => (List.mem_append.1 hx).elim (h3 x) (h4 x)) h
  exact List.append_inj e hs

/-- How an element of the poll reads: a place and what the vote is for. -/
def standR : Value → Option (DataW Unit × List MemPlace)
  | .agg cs => (match cs.toList with | [.int .i64 n, .bool b] => some (.agg [.lit (.int .i64 n), .lit (.bool b)], []) | _ => none)
  | _ => none

theorem standR_mk (n : Int) (b : Bool) : standR (.agg #[.int .i64 n, .bool b]) = some (.agg [.lit (.int .i64 n), .lit (.bool b)], []) := rfl

theorem standR_inv {v : Value} {z : DataW Unit × List MemPlace} (h : standR v = some z) : ∃ n b, v = .agg #[.int .i64 n, .bool b] := by
  unfold standR at h
  split at h
  · rename_i cs
    split at h
    · rename_i n b e
      refine ⟨n, b, ?_⟩
      obtain ⟨l⟩ := cs
      simp only at e
      rw [e]
    · cases h
  · cases h

theorem zeroStand (w : World) : (zeroValue 124).run Tryd.prog w = .ok (.agg #[.int .i64 0, .bool false]) w := by kernel_rfl

end Go.Proofs.YtpkfgffgldjceaaDoor

/- What is proved here: what the program's addressOf and ballotOf answer: four bytes as an array, two such as a key. -/
namespace Go.Proofs.YtpkfgffgldjceaaDoor
open Go.RowKit
set_option linter.unusedVariables false
set_option maxRecDepth 100000

theorem sizeU8 : (Tryd.prog.info? 5).map (·.size) = some 1 := by kernel_rfl

theorem copy_addr (s : Sl) (z0 z1 z2 z3 : Int) (w : World) (T : TypeId) (o : BOk w s [z0, z1, z2, z3]) :
    ∃ W, (Builtin.copy_ #[57, 57] 3 #[.slice (some ⟨w.heap.size + 1, 0, none⟩) 4 4, .slice s.a s.n s.c]).run Tryd.prog ((w.alloc (.cells #[.int .u8 0, .int .u8 0, .int .u8 0, .int .u8 0] T)).alloc (.cells #[.int .u8 0, .int .u8 0, .int .u8 0, .int .u8 0] T)) = .ok (.int .i64 4) W ∧
      SBlk W w.heap.size [.int .u8 0, .int .u8 0, .int .u8 0, .int .u8 0] T ∧ SBlk W (w.heap.size + 1) [.int .u8 z0, .int .u8 z1, .int .u8 z2, .int .u8 z3] T ∧ Below w.heap.size w W := by
  obtain ⟨a, n, c⟩ := s
  obtain ⟨hrow, _, _, _⟩ := o
  have hn : n = 4 := hrow.1.symm
  subst hn
  obtain ⟨b, off, ea, hb, hc⟩ := hrow.at (by show 0 < 4; omega)
  simp only at ea
  subst ea
  have k0 := (SBlk.new w #[.int .u8 0, .int .u8 0, .int .u8 0, .int .u8 0] T).next (.cells #[.int .u8 0, .int .u8 0, .int .u8 0, .int .u8 0] T)
  have k1 := SBlk.new (w.alloc (.cells #[.int .u8 0, .int .u8 0, .int .u8 0, .int .u8 0] T)) #[.int .u8 0, .int .u8 0, .int .u8 0, .int .u8 0] T
  have b1 : Below w.heap.size w ((w.alloc (.cells #[.int .u8 0, .int .u8 0, .int .u8 0, .int .u8 0] T)).alloc (.cells #[.int .u8 0, .int .u8 0, .int .u8 0, .int .u8 0] T)) := ((Below.refl _ _).alloc (Nat.le_refl _) _).alloc (by simp) _
  rw [show (w.alloc (.cells #[.int .u8 0, .int .u8 0, .int .u8 0, .int .u8 0] T)).heap.size = w.heap.size + 1 by simp] at k1
  generalize ((w.alloc (.cells #[.int .u8 0, .int .u8 0, .int .u8 0, .int .u8 0] T)).alloc (.cells #[.int .u8 0, .int .u8 0, .int .u8 0, .int .u8 0] T)) = W1 at k0 k1 b1 ⊢
  have hr := run_copy_row (P := Tryd.prog) W1 57 57 3 5 (w.heap.size + 1) 0 4 4 ⟨b, off, none⟩ 4 c #[.int .u8 0, .int .u8 0, .int .u8 0, .int .u8 0] T [.int .u8 z0, .int .u8 z1, .int .u8 z2, .int .u8 z3] Tryd.underlying57 sizeU8 k1 rfl
    (fun j v hj => by
      rw [add_none, b1.cell (p := ⟨b, off + j, none⟩) hb]
      match j, hj with
      | 0, hj => rw [hc 0 (by show 0 < 4; omega)]; simpa using hj
      | 1, hj => rw [hc 1 (by show 1 < 4; omega)]; simpa using hj
      | 2, hj => rw [hc 2 (by show 2 < 4; omega)]; simpa using hj
      | 3, hj => rw [hc 3 (by show 3 < 4; omega)]; simpa using hj
      | (j + 4), hj => simp at hj)
    (by simp) (fun v hv => by simp at hv; rcases hv with rfl | rfl | rfl | rfl <;> rfl)
  refine ⟨_, hr, ?_, ?_, ?_⟩
  · exact (_root_.Go.setRow_other W1 _ _ _ (by omega)).trans k0
  · exact setRow_heap W1 _ _ _ T _ k1
  · refine b1.grown (row := some (w.heap.size + 1)) ⟨rfl, rfl, rfl, by simp [World.setRow], fun k _ hk => _root_.Go.setRow_other W1 _ k _ (fun e => hk (by simp [e]))⟩ b1.size (fun k e => by cases e; omega)

set_option maxHeartbeats 1000000 in
theorem addressOf_any (s : Sl) (z0 z1 z2 z3 : Int) (w : World) (o : BOk w s [z0, z1, z2, z3]) :
    Calls Tryd.prog 98 #[.slice s.a s.n s.c] w fun e w' => e = .returned (.agg #[.int .u8 z0, .int .u8 z1, .int .u8 z2, .int .u8 z3]) ∧ Below w.heap.size w w' := by
  obtain ⟨W2, hr, k0, k1, b2⟩ := copy_addr s z0 z1 z2 z3 w 126 o
  have HB := hide b2
  have c0 := k1.cell 0
  have c1 := k1.cell 1
  have c2 := k1.cell 2
  have c3 := k1.cell 3
  have d0 := k0.cell 0
  have d1 := k0.cell 1
  have d2 := k0.cell 2
  have d3 := k0.cell 3
  have f0 := k0.free 0
  have f1 := k0.free 1
  have f2 := k0.free 2
  have f3 := k0.free 3
  simp only [List.getElem?_cons_zero, List.getElem?_cons_succ] at c0 c1 c2 c3 d0 d1 d2 d3
  clear o k0 k1 b2
  go_enter Tryd.func98, Tryd.ntmps98
  go_wp2_with fail
  refine bodyPost_ret (v := .agg #[.int .u8 z0, .int .u8 z1, .int .u8 z2, .int .u8 z3]) (by simp [results, Tryd.results98, go_sem, d0, d1, d2, d3]) rfl ⟨rfl, ?_⟩
  exact ((((unhide HB).setCell (Nat.le_refl _) _).setCell (Nat.le_refl _) _).setCell (Nat.le_refl _) _).setCell (Nat.le_refl _) _

set_option maxHeartbeats 2000000 in
theorem ballotOf_any (s t : Sl) (z0 z1 z2 z3 y0 y1 y2 y3 : Int) (w : World) (o : BOk w s [z0, z1, z2, z3]) (q : BOk w t [y0, y1, y2, y3]) :
    Calls Tryd.prog 87 #[.slice s.a s.n s.c, .slice t.a t.n t.c] w fun e w' => e = .returned (.agg #[.int .u8 z0, .int .u8 z1, .int .u8 z2, .int .u8 z3, .int .u8 y0, .int .u8 y1, .int .u8 y2, .int .u8 y3]) ∧ Below w.heap.size w w' := by
  have HA := hide (fun (W : World) (hb : Below w.heap.size w W) => addressOf_any s z0 z1 z2 z3 W (bytesK.below o hb (Nat.le_refl _)))
  have HC := hide (fun (W : World) (hb : Below w.heap.size w W) => addressOf_any t y0 y1 y2 y3 W (bytesK.below q hb (Nat.le_refl _)))
  have kb := SBlk.new w #[.int .u8 0, .int .u8 0, .int .u8 0, .int .u8 0, .int .u8 0, .int .u8 0, .int .u8 0, .int .u8 0] 128
  have bb := below_alloc w (.cells #[.int .u8 0, .int .u8 0, .int .u8 0, .int .u8 0, .int .u8 0, .int .u8 0, .int .u8 0, .int .u8 0] 128)
  obtain ⟨W0, e0⟩ : ∃ W, w.alloc (.cells #[.int .u8 0, .int .u8 0, .int .u8 0, .int .u8 0, .int .u8 0, .int .u8 0, .int .u8 0, .int .u8 0] 128) = W := ⟨_, rfl⟩
  rw [e0] at kb bb
  have HB0 := hide bb
  have HK := hide (fun (W : World) (hb : Below W0.heap.size W0 W) => kb.below hb kb.lt)
  clear o q kb bb
  go_enter Tryd.func87, Tryd.ntmps87
  go_wp2_with (rw [e0])
  try rw [e0]
  clear e0
  refine ((unhide HA) _ (unhide HB0)).mono ?_
  rintro e w1 ⟨rfl, b1⟩
  have HB1 := hide ((unhide HB0).trans (b1.mono (unhide HB0).size))
  have K1 := hide b1
  clear b1
  go_wp2_with fail
  refine ((unhide HC) _ (unhide HB1)).mono ?_
  rintro e w2 ⟨rfl, b2⟩
  have HB2 := hide ((unhide HB1).trans (b2.mono (unhide HB1).size))
  have k2 := (unhide HK) w2 ((unhide K1).trans (b2.mono (unhide K1).size))
  have c0 := k2.cell 0
  have c1 := k2.cell 1
  have c2 := k2.cell 2
  have c3 := k2.cell 3
  have c4 := k2.cell 4
  have c5 := k2.cell 5
  have c6 := k2.cell 6
  have c7 := k2.cell 7
  have f0 := k2.free 0
  have f1 := k2.free 1
  have f2 := k2.free 2
  have f3 := k2.free 3
  have f4 := k2.free 4
  have f5 := k2.free 5
  have f6 := k2.free 6
  have f7 := k2.free 7
  simp only [List.getElem?_cons_zero, List.getElem?_cons_succ] at c0 c1 c2 c3 c4 c5 c6 c7
  clear b2 k2 K1 HK
  go_wp2_with fail
  refine bodyPost_ret (v := .agg #[.int .u8 z0, .int .u8 z1, .int .u8 z2, .int .u8 z3, .int .u8 y0, .int .u8 y1, .int .u8 y2, .int .u8 y3]) (by simp [results, Tryd.results87, go_sem, c0, c1, c2, c3, c4, c5, c6, c7]) rfl ⟨rfl, ?_⟩
  exact ((((((((unhide HB2).setCell (Nat.le_refl _) _).setCell (Nat.le_refl _) _).setCell (Nat.le_refl _) _).setCell (Nat.le_refl _) _).setCell (Nat.le_refl _) _).setCell (Nat.le_refl _) _).setCell (Nat.le_refl _) _).setCell (Nat.le_refl _) _

end Go.Proofs.YtpkfgffgldjceaaDoor

/- What is proved here: what the program's poll tells and takes: has, put. -/
namespace Go.Proofs.YtpkfgffgldjceaaDoor
open Go.RowKit
set_option linter.unusedVariables false
set_option maxRecDepth 100000

/-- Bytes of an address. -/
def Adr (z : List Int) : Prop := z.length = 4 ∧ ∀ x ∈ z, 0 ≤ x ∧ x ≤ 255

theorem adr_of {w : World} {s : Sl} {z : List Int} (o : BOk w s z) (h : z.length = 4) : Adr z := ⟨h, o.row.2.1⟩

theorem adr_four {z : List Int} (h : Adr z) : ∃ z0 z1 z2 z3, z = [z0, z1, z2, z3] ∧ (0 ≤ z0 ∧ z0 ≤ 255) ∧ (0 ≤ z1 ∧ z1 ≤ 255) ∧ (0 ≤ z2 ∧ z2 ≤ 255) ∧ (0 ≤ z3 ∧ z3 ≤ 255) := by
  obtain ⟨h1, h2⟩ := h
  match z, h1 with
  | [z0, z1, z2, z3], _ => exact ⟨z0, z1, z2, z3, rfl, h2 z0 (by simp), h2 z1 (by simp), h2 z2 (by simp), h2 z3 (by simp)⟩

/-- The poll in block g: at most k votes; it has just those that are on the list. -/
def PollOk (w : World) (g k : Nat) (seen : List (List Int × List Int)) : Prop :=
  ∃ D : DataW Unit, w.ownsMap Tryd.prog 128 standR g k D ∧ ∀ s t, Adr s → Adr t → Maps.has D (klOf s t) = decide ((s, t) ∈ seen)

theorem grown_of_below {w w' : World} {B : Nat} (hb : Below B w w') (hB : w.heap.size ≤ B) : w.grownBy w' none := ⟨hb.os, hb.tape, hb.output, hb.size, fun k hk _ => hb.block k (Nat.lt_of_lt_of_le hk hB)⟩

theorem PollOk.below {w w' : World} {g k B : Nat} {seen : List (List Int × List Int)} (h : PollOk w g k seen) (hb : Below B w w') (hB : w.heap.size ≤ B) : PollOk w' g k seen := by
  obtain ⟨D, h1, h2⟩ := h
  exact ⟨D, h1.kept (grown_of_below hb hB) (by simp), h2⟩

theorem PollOk.lt {w : World} {g k : Nat} {seen : List (List Int × List Int)} (h : PollOk w g k seen) : g < w.heap.size := by
  obtain ⟨D, h1, _⟩ := h
  exact h1.lt

theorem PollOk.made (w : World) : PollOk (w.alloc (.map #[] 0)) w.heap.size 0 [] := ⟨.map [], World.ownsMap_made w _ _ _, fun s t _ _ => by simp [Maps.has]⟩

/-- 'm[k] = v' at a step of a region that draws its order. -/
theorem step_mapUpdate_own {H : Type} {P : Program} {ops : Array Oper} {o : Oper} {a : Act} {w : World} {K : Act → World → Prop} {Q : Exit → Act → World → Prop} {E : Prop} (hgd : o.guard = none) (m x v : Operand) (t : TypeId) (hop : o.op = Op.mapUpdate t m x v)
    (k e : TypeId) (L : Maps.Keyed P k) (ht : P.underlying t = some (.map k e)) (R : Value → Option (DataW H × List MemPlace)) (b n : Nat) (D : DataW H)
    (hm : a.eval m = .map (some b)) (hown : w.ownsMap P k R b n D) (hn : n < maxLen) (key val : Value) (kl : Lit) (hx : a.eval x = key) (hv : a.eval v = val) (hkey : keyOf P k key = some kl)
    (d : DataW H) (ps : List MemPlace) (hval : R val = some (d, ps))
    (h : ∀ w', w'.ownsMap P k R b (n + 1) (D.put kl d) → w.grownBy w' (some b) → K (a.put o.dst undef) w') : if Region.wanted o (yielded ops a.tmps) = true then Oper.wp P o a w K Q else E := by
  have hw : Region.wanted o (yielded ops a.tmps) = true := by simp [Region.wanted, hgd]
  rw [if_pos hw]
  obtain ⟨w', hrun, r1, r2⟩ := hown.update L ht hn hkey hval
  unfold Oper.wp execOp
  simp only [hop, hm, hx, hv, Sem.run_bind, hrun, Sem.run_pure, Result.andThen_ok]
  exact h w' r1 r2

set_option maxHeartbeats 2000000 in
theorem has_any (g k : Nat) (s t : Sl) (x y : List Int) (b : Bool) (seen : List (List Int × List Int)) (w : World) (o : BOk w s x) (q : BOk w t y) (hx : x.length = 4) (hy : y.length = 4) (hp : PollOk w g k seen) :
    Calls Tryd.prog 86 #[.map (some g), .agg #[.slice s.a s.n s.c, .slice t.a t.n t.c, .bool b]] w fun e w' => e = .returned (.bool (decide ((x, y) ∈ seen))) ∧ Below w.heap.size w w' := by
  have ax := adr_of o hx
  have ay := adr_of q hy
  obtain ⟨z0, z1, z2, z3, rfl, r0, r1, r2, r3⟩ := adr_four ax
  obtain ⟨y0, y1, y2, y3, rfl, t0, t1, t2, t3⟩ := adr_four ay
  have hkey := keyOf_ballot r0 r1 r2 r3 t0 t1 t2 t3
  have HB := hide (fun (W : World) (hb : Below w.heap.size w W) => ballotOf_any s t z0 z1 z2 z3 y0 y1 y2 y3 W (bytesK.below o hb (Nat.le_refl _)) (bytesK.below q hb (Nat.le_refl _)))
  have HP := hide (fun (W : World) (hb : Below w.heap.size w W) => hp.below hb (Nat.le_refl _))
  have B0 := hide (below_alloc w (.cells #[.slice s.a s.n s.c, .slice t.a t.n t.c, .bool b] 62))
  clear o q hp r0 r1 r2 r3 t0 t1 t2 t3 hx hy
  go_enter Tryd.func86, Tryd.ntmps86
  go_wp2_with fail
  refine ((unhide HB) _ (unhide B0)).mono ?_
  rintro e w1 ⟨rfl, b1⟩
  have HB1 := hide ((unhide B0).trans (b1.mono (unhide B0).size))
  obtain ⟨D, hown, hhas⟩ := (unhide HP) w1 (unhide HB1)
  have hh := hhas _ _ ax ay
  clear b1 hhas HP HB ax ay
  go_wp2_with (at_lookup; refine wpList_lookup_own_ok _ rfl _ _ 104 rfl 128 124 ballotLaw Tryd.underlying104 standR (zeroStand _) (.agg [.lit (.int .i64 0), .lit (.bool false)]) [] rfl g k D rfl hown _ _ rfl hkey ?_; intro v ps hv; obtain ⟨vn, vb, rfl⟩ := standR_inv hv; clear hv)
  go_ret
  refine ⟨rfl, ?_⟩
  exact (unhide HB1).alloc (unhide HB1).size _

set_option maxHeartbeats 2000000 in
theorem put_any (g k : Nat) (s t : Sl) (x y : List Int) (b : Bool) (pl : Int) (seen : List (List Int × List Int)) (w : World) (o : BOk w s x) (q : BOk w t y) (hx : x.length = 4) (hy : y.length = 4) (hp : PollOk w g k seen) (hk : k < maxLen) :
    Calls Tryd.prog 74 #[.map (some g), .int .i64 pl, .agg #[.slice s.a s.n s.c, .slice t.a t.n t.c, .bool b]] w fun e w' => e = .returned (.tuple #[]) ∧ PollOk w' g (k + 1) (seen ++ [(x, y)]) ∧ w.grownBy w' (some g) := by
  have ax := adr_of o hx
  have ay := adr_of q hy
  obtain ⟨z0, z1, z2, z3, rfl, r0, r1, r2, r3⟩ := adr_four ax
  obtain ⟨y0, y1, y2, y3, rfl, t0, t1, t2, t3⟩ := adr_four ay
  have hkey := keyOf_ballot r0 r1 r2 r3 t0 t1 t2 t3
  have HB := hide (fun (W : World) (hb : Below w.heap.size w W) => ballotOf_any s t z0 z1 z2 z3 y0 y1 y2 y3 W (bytesK.below o hb (Nat.le_refl _)) (bytesK.below q hb (Nat.le_refl _)))
  have HP := hide (fun (W : World) (hb : Below w.heap.size w W) => hp.below hb (Nat.le_refl _))
  have ka := SBlk.new w #[.slice s.a s.n s.c, .slice t.a t.n t.c, .bool b] 62
  have ba := below_alloc w (.cells #[.slice s.a s.n s.c, .slice t.a t.n t.c, .bool b] 62)
  obtain ⟨W0, e0⟩ : ∃ W, w.alloc (.cells #[.slice s.a s.n s.c, .slice t.a t.n t.c, .bool b] 62) = W := ⟨_, rfl⟩
  rw [e0] at ka ba
  have c0 := ka.cell 0
  have c1 := ka.cell 1
  have c2 := ka.cell 2
  simp only [List.getElem?_cons_zero, List.getElem?_cons_succ] at c0 c1 c2
  have B0 := hide ba
  have HKA := hide (fun (W : World) (hb : Below W0.heap.size W0 W) => ka.below hb ka.lt)
  have hgw : some w.heap.size ≠ some g := fun e => by have := hp.lt; simp at e; omega
  clear o q hp r0 r1 r2 r3 t0 t1 t2 t3 hx hy ka ba
  go_enter Tryd.func74, Tryd.ntmps74
  go_wp2_with (rw [e0])
  try rw [e0]
  clear e0
  have HS : Hid (∀ W, Below W0.heap.size W0 W → W.cell? ⟨w.heap.size, 0, none⟩ = some (.slice s.a s.n s.c) ∧ W.cell? ⟨w.heap.size, 1, none⟩ = some (.slice t.a t.n t.c) ∧ W.cell? ⟨w.heap.size, 2, none⟩ = some (.bool b)) := fun W hb => by
    have k := (unhide HKA) W hb
    exact ⟨k.cell 0, k.cell 1, k.cell 2⟩
  go_region_held3 (fun W => W.cell? ⟨w.heap.size, 0, none⟩ = some (.slice s.a s.n s.c) ∧ W.cell? ⟨w.heap.size, 1, none⟩ = some (.slice t.a t.n t.c) ∧ W.cell? ⟨w.heap.size, 2, none⟩ = some (.bool b))
    (first | exact S2 | exact (unhide HS) _ (by first | assumption | exact Below.refl _ _ | exact (Below.refl W0.heap.size W0).drew | exact below_drewN (Below.refl W0.heap.size W0) _))
    (first
    | (go_at_call 87; refine ((unhide HB) _ (by first | exact unhide B0 | exact (unhide B0).drew | exact below_drewN (unhide B0) _)).mono ?_; rintro e w1 ⟨rfl, b1⟩; have HB1 := hide (Below.trans (by first | exact unhide B0 | exact (unhide B0).drew | exact below_drewN (unhide B0) _) (b1.mono (by first | exact (unhide B0).size | exact (below_drewN (unhide B0) _).size)) : Below w.heap.size w w1); obtain ⟨D, hown, hhas⟩ := (unhide HP) w1 (unhide HB1); obtain ⟨w2, hrun, hown2, hgrow2⟩ := hown.update ballotLaw Tryd.underlying104 hk hkey (standR_mk pl b); have HH := hide (And.intro hhas (And.intro hown (And.intro hown2 hgrow2))); have d2 := ((unhide HKA) w1 (by first | exact b1 | exact Below.trans (below_drewN (Below.refl W0.heap.size W0) _) b1 | exact Below.trans ((Below.refl W0.heap.size W0).drew) b1)).cell 2; simp only [List.getElem?_cons_zero, List.getElem?_cons_succ] at d2; have J1 : Below W0.heap.size W0 w1 := (by first | exact b1 | exact Below.trans (below_drewN (Below.refl W0.heap.size W0) _) b1 | exact Below.trans ((Below.refl W0.heap.size W0).drew) b1); have S1 := (unhide HS) w1 J1; have S2 : w2.cell? ⟨w.heap.size, 0, none⟩ = some (.slice s.a s.n s.c) ∧ w2.cell? ⟨w.heap.size, 1, none⟩ = some (.slice t.a t.n t.c) ∧ w2.cell? ⟨w.heap.size, 2, none⟩ = some (.bool b) := (And.intro (hgrow2.cell S1.1 hgw) (And.intro (hgrow2.cell S1.2.1 hgw) (hgrow2.cell S1.2.2 hgw))); clear hhas hown hown2 hgrow2 b1 S1))
  all_goals
    go_wp2_with fail
    obtain ⟨hhas, hown, hown2, hgrow2⟩ := unhide HH
    refine bodyPost_end (v := .tuple #[]) (by simp [results, Tryd.results74]) rfl ⟨rfl, ⟨_, hown2, fun a c ha hc => ?_⟩, ?_⟩
    · by_cases e : (a, c) = ([z0, z1, z2, z3], [y0, y1, y2, y3])
      · simp only [Prod.mk.injEq] at e
        obtain ⟨rfl, rfl⟩ := e
        rw [Maps.has_put_same hown.isMap (ballotLaw.key hkey)]
        simp
      · have hne : klOf a c ≠ klOf [z0, z1, z2, z3] [y0, y1, y2, y3] := fun q => e (by
          obtain ⟨e1, e2⟩ := klOf_inj (by rw [ha.1]; rfl) ha.2 hc.2 ax.2 ay.2 q
          rw [e1, e2])
        rw [Maps.has_put_other hne, hhas a c ha hc]
        simp [e]
    · exact ⟨hgrow2.os.trans (unhide HB1).os, hgrow2.tape.trans (unhide HB1).tape, hgrow2.output.trans (unhide HB1).output, Nat.le_trans (unhide HB1).size hgrow2.size, fun q hq hne => (hgrow2.block q (Nat.lt_of_lt_of_le hq (unhide HB1).size) hne).trans ((unhide HB1).block q hq)⟩

end Go.Proofs.YtpkfgffgldjceaaDoor
