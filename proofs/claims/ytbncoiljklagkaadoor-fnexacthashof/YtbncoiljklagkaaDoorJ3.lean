/- What is proved here: what the program's HeadBytes answers: the code and the head of an item, in new memory. -/
import Derived.Test.YtbncoiljklagkaaDoorJ2
import Derived.WalkKit
import Derived.WalkLawsBesides
import Derived.WalkSmall
import Derived.WalkSpells
import Derived.KernelRfl
import Derived.Test.YtbncoiljklagkaaDoorChecked
import Derived.Test.YtbncoiljklagkaaDoorJ1
import Derived.Deep.RegionWith
import Derived.BigRegion
import Derived.Deep.DeepCutAuto
import Derived.Deep.CutBlock
import Derived.RangeFuncFrom
import Derived.RangeFuncLeaves
import Derived.Shelf.Abstract
import Derived.OwnWalkIn
import Derived.TacticsInMore
import Derived.LoopNIn
import Derived.LoopIn
import Derived.RegionTactic
import Derived.Laws.Bits64b
import Derived.Laws.BitsLemmas
import Derived.Laws.CopyOwn
import Derived.Laws.BitsAllLaws
namespace Go.Proofs.YtbncoiljklagkaaDoor
open Go.RowKit
set_option linter.unusedVariables false

theorem headStart_any (l : Bool) (w : World) : Calls Tryd.prog 116 #[.bool l] w fun e w' => e = .returned (.int .i64 (headB l)) ∧ w' = w := by
  cases l
  all_goals
    go_enter Tryd.func116, Tryd.ntmps116
    go_wp2
    go_ret
    exact ⟨rfl, rfl⟩

set_option maxHeartbeats 1000000 in
theorem implHead_out (l : Bool) (n : Int) (w : World) (h : n < 0 ∨ 1200 < n) :
    Calls Tryd.prog 114 #[.bool l, .int .i64 n] w fun e w' => e = .returned (.agg #[.int .i64 3, .slice none 0 0]) ∧ Below w.heap.size w w' := by
  by_cases h' : n < 0
  · have hd : decide (n < 0) = true := decide_eq_true h'
    go_enter Tryd.func114, Tryd.ntmps114
    go_wp2_with fail
    exact bodyPost_ret (v := .agg #[.int .i64 3, .slice none 0 0]) (by simp [results, Tryd.results114, go_sem]) rfl ⟨rfl, (Below.refl _ _).alloc (Nat.le_refl _) _⟩
  · have hd : decide (n < 0) = false := decide_eq_false h'
    have h2 : decide (1200 < n) = true := decide_eq_true (by omega)
    go_enter Tryd.func114, Tryd.ntmps114
    go_wp2_with fail
    exact bodyPost_ret (v := .agg #[.int .i64 3, .slice none 0 0]) (by simp [results, Tryd.results114, go_sem]) rfl ⟨rfl, (Below.refl _ _).alloc (Nat.le_refl _) _⟩

set_option maxHeartbeats 1000000 in
theorem implHead_small (l : Bool) (n : Int) (w : World) (h0 : 0 ≤ n) (h1 : n ≤ 55) :
    Calls Tryd.prog 114 #[.bool l, .int .i64 n] w fun e w' => ∃ a cap, e = .returned (.agg #[.int .i64 0, .slice a (headL l n).length cap]) ∧
      w'.ownsRow w.heap.size 5 1 (.slice a (headL l n).length cap) (headL l n).length ((headL l n).map (Value.int .u8)) ∧ Below w.heap.size w w' := by
  have e : headL l n = [headB l + n] := if_pos h1
  rw [e]
  have hb := headB_in l
  have hd : decide (n < 0) = false := decide_eq_false (by omega)
  have h2 : decide (1200 < n) = false := decide_eq_false (by omega)
  have h3 : decide (n ≤ 55) = true := decide_eq_true h1
  have HS := hide (fun W => headStart_any l W)
  generalize headB l = bb at HS hb
  go_enter Tryd.func114, Tryd.ntmps114
  go_wp2_with fail
  refine ((unhide HS) _).mono ?_
  rintro e w1 ⟨rfl, rfl⟩
  go_wp2_with fail
  refine bodyPost_ret (v := .agg #[.int .i64 0, .slice (some ⟨w.heap.size + 1, 0, none⟩) 1 1]) (by simp [results, Tryd.results114, go_sem]) rfl ⟨some ⟨w.heap.size + 1, 0, none⟩, 1, rfl, ?_, ?_⟩
  · have o := World.ownsRow_lit (base := w.heap.size) (e := 5) (size := 1) (w.alloc (.cells #[.int .i64 0, .slice (some ⟨w.heap.size + 1, 0, none⟩) 1 1] 28)) #[.int .u8 (bb + n)] 1 (by simp) (by unfold maxLen; omega) rfl
    simpa using o
  · exact ((Below.refl _ _).alloc (Nat.le_refl _) _).alloc (by simp) _

set_option maxHeartbeats 1000000 in
theorem implHead_long (l : Bool) (n : Int) (w : World) (h0 : 55 < n) (h1 : n ≤ 1200) :
    Calls Tryd.prog 114 #[.bool l, .int .i64 n] w fun e w' => ∃ a cap, e = .returned (.agg #[.int .i64 0, .slice a (headL l n).length cap]) ∧
      w'.ownsRow w.heap.size 5 1 (.slice a (headL l n).length cap) (headL l n).length ((headL l n).map (Value.int .u8)) ∧ Below w.heap.size w w' := by
  obtain ⟨i0, hi, hz0, hz1, hz2⟩ := info_parts info5
  have e : headL l n = (headB l + 55 + (shortF 7 n).length) :: shortF 7 n := if_neg (by omega)
  rw [e]
  have hb := headB_in l
  have hd : decide (n < 0) = false := decide_eq_false (by omega)
  have h2 : decide (1200 < n) = false := decide_eq_false (by omega)
  have h3 : decide (n ≤ 55) = false := decide_eq_false (by omega)
  have HS := hide (fun W => headStart_any l W)
  have HH := hide (fun W => implShort_pos n W (by omega) (by omega))
  have hs3 := shortF_small n (by omega) (by omega)
  have hs0 := shortF_pos n (by omega)
  clear e
  generalize headB l = bb at HS hb
  generalize shortF 7 n = L at HH hs3 hs0
  go_enter Tryd.func114, Tryd.ntmps114
  go_wp2_with fail
  refine ((unhide HS) _).mono ?_
  rintro e w1 ⟨rfl, rfl⟩
  go_wp2_with fail
  refine ((unhide HH) _).mono ?_
  rintro e w2 ⟨a, cap, rfl, hown, hbel⟩
  obtain ⟨g, cap', hv⟩ := own_some hown hs0
  simp only [Value.slice.injEq] at hv
  obtain ⟨rfl, _, rfl⟩ := hv
  have hsz : (w.alloc (.cells #[.int .i64 0, .slice none 0 0] 28)).heap.size = w.heap.size + 1 := by simp
  rw [hsz] at hown hbel
  have hz : w.heap.size + 1 ≤ w2.heap.size := by have := hbel.size; rw [hsz] at this; exact this
  have hfd := fldB1
  go_wp2_with (at_builtin; refine wpList_append_own _ rfl _ _ 22 rfl (w.heap.size + 1) 5 i0 (.int .u8 0) 1 1 Tryd.underlying22 hi hz0 hz1 hz2 rfl (by decide) _ 1 [.int .u8 _] rfl (World.ownsRow_lit w2 #[.int .u8 _] 1 hz (by unfold maxLen; omega) rfl) ⟨g, 0, none⟩ L.length _ (L.map (Value.int .u8)) rfl (by simp) ?c1 ?c2 ?c3 ?c4 ?c5 ?_)
  case c1 => intro j u hj; exact own_src hown _ j u hj
  case c2 => intro u hu; obtain ⟨x, _, rfl⟩ := List.mem_map.1 hu; rfl
  case c3 => unfold maxLen; omega
  case c4 => omega
  case c5 => simp; omega
  intro v' w3 hown3 hgrow _
  obtain ⟨a3, cap3, hv⟩ := own_shape hown3
  have hb1 : Below (w.heap.size + 1) (w.alloc (.cells #[.int .i64 0, .slice none 0 0] 28)) w3 := (hbel.alloc hz _).grown hgrow (by simp; omega) (fun g e => by cases e; exact hz)
  have hb3 : Below w.heap.size w w3 := ((Below.refl _ _).alloc (Nat.le_refl _) _).trans (hb1.mono (by omega))
  have q0 : w3.cell? ⟨w.heap.size, 0, none⟩ = some (.int .i64 0) := (hb1.cell (by simp)).trans (by simp)
  have q1 : w3.cell? ⟨w.heap.size, 1, none⟩ = some (.slice none 0 0) := (hb1.cell (by simp)).trans (by simp)
  have f0 : w3.frozen? ⟨w.heap.size, 0, none⟩ = false := (hb1.frozen (by simp)).trans (by simp)
  have f1 : w3.frozen? ⟨w.heap.size, 1, none⟩ = false := (hb1.frozen (by simp)).trans (by simp)
  rw [hv] at hown3
  rw [hv]
  have HO := hide hown3
  have HB := hide hb3
  clear hown3 hb3 hb1 hgrow hown hbel
  go_wp2_with fail
  refine bodyPost_ret (v := .agg #[.int .i64 0, .slice a3 (1 + L.length) cap3]) (by simp [results, Tryd.results114, go_sem, q0, q1]) rfl ⟨a3, cap3, ?_, ?_, ?_⟩
  · rw [Nat.add_comm]
  · have o : w3.ownsRow (w.heap.size + 1) 5 1 (.slice a3 (L.length + 1) cap3) (L.length + 1) (((bb + 55 + (L.length : Int)) :: L).map (Value.int .u8)) := by
      rw [Nat.add_comm L.length 1]; exact unhide HO
    exact ownsRow_base (ownsRow_setCell_below (ownsRow_setCell_below o (by simp) _) (by simp) _) (by omega)
  · exact ((unhide HB).setCell (by simp) _).setCell (by simp) _

theorem implHead_any (l : Bool) (n : Int) (w : World) :
    Calls Tryd.prog 114 #[.bool l, .int .i64 n] w fun e w' => ∃ a cap, e = .returned (.agg #[.int .i64 (hdCode n), .slice a (hdBytes l n).length cap]) ∧
      w'.ownsRow w.heap.size 5 1 (.slice a (hdBytes l n).length cap) (hdBytes l n).length ((hdBytes l n).map (Value.int .u8)) ∧ Below w.heap.size w w' := by
  by_cases hr : 0 ≤ n ∧ n ≤ 1200
  · have e1 : hdCode n = 0 := if_pos hr
    have e2 : hdBytes l n = headL l n := if_pos hr
    rw [e1, e2]
    by_cases h : n ≤ 55
    · exact implHead_small l n w hr.1 h
    · exact implHead_long l n w (by omega) hr.2
  · have e1 : hdCode n = 3 := if_neg hr
    have e2 : hdBytes l n = [] := if_neg hr
    rw [e1, e2]
    refine (implHead_out l n w (by omega)).mono fun e w' hq => ?_
    exact ⟨none, 0, hq.1, World.ownsRow_nil _ _ _ _, hq.2⟩

end Go.Proofs.YtbncoiljklagkaaDoor

/- What is proved here: what the program's headOf answers: the head of an item, in new memory. -/
namespace Go.Proofs.YtbncoiljklagkaaDoor
open Go.RowKit
set_option linter.unusedVariables false

set_option maxHeartbeats 2000000 in
theorem headOf_any (l : Bool) (p : Int) (sa : Option Addr) (sl sc : Nat) (z : List Int) (n : Nat) (w : World) (h : BRow w sa sl z) (hn : l = false → n = sl) :
    Calls Tryd.prog 106 #[.agg #[.bool l, .int .i64 p, .slice sa sl sc], .int .i64 (n : Int)] w fun e w' => ∃ a' cap', e = .returned (.slice a' (hdI ⟨l, p, z⟩ n).length cap') ∧
      w'.ownsRow w.heap.size 5 1 (.slice a' (hdI ⟨l, p, z⟩ n).length cap') (hdI ⟨l, p, z⟩ n).length ((hdI ⟨l, p, z⟩ n).map (Value.int .u8)) ∧ Below w.heap.size w w' := by
  have hzl := h.1
  by_cases t : l = false ∧ n = 1 ∧ z.getD 0 0 < 128
  · have e : hdI ⟨l, p, z⟩ n = [] := if_pos t
    rw [e]
    obtain ⟨rfl, rfl, h128⟩ := t
    have hs1 : sl = 1 := (hn rfl).symm
    subst hs1
    obtain ⟨b, off, rfl, hbl, hcell⟩ := h.at (by omega)
    have c0 := hcell 0 (by omega)
    rw [Nat.add_zero] at c0
    have c0' : ∀ o, (w.alloc o).cell? ⟨b, off, none⟩ = some (.int .u8 (z.getD 0 0)) := fun o => ((below_alloc w o).cell hbl).trans c0
    generalize z.getD 0 0 = x at c0 h128 c0'
    have d1 : decide (x < 128) = true := decide_eq_true h128
    clear h hcell e hn c0
    go_enter Tryd.func106, Tryd.ntmps106
    go_wp2_with fail
    go_ret
    exact ⟨none, 0, rfl, World.ownsRow_nil _ _ _ _, below_alloc w _⟩
  · have e : hdI ⟨l, p, z⟩ n = hdBytes l n := if_neg t
    rw [e]
    have HH : Hid (∀ W, Calls Tryd.prog 114 #[.bool l, .int .i64 (n : Int)] W fun e w' => ∃ a cap c, e = .returned (.agg #[.int .i64 c, .slice a (hdBytes l n).length cap]) ∧ w'.ownsRow W.heap.size 5 1 (.slice a (hdBytes l n).length cap) (hdBytes l n).length ((hdBytes l n).map (Value.int .u8)) ∧ Below W.heap.size W w') := fun W =>
      (implHead_any l n W).mono fun e w' ⟨a, cap, he, ho, hb⟩ => ⟨a, cap, _, he, ho, hb⟩
    have hfd := fldB1
    generalize hdBytes l n = L at HH
    cases l
    · by_cases n1 : n = 1
      · subst n1
        have hs1 : sl = 1 := (hn rfl).symm
        subst hs1
        obtain ⟨b, off, rfl, hbl, hcell⟩ := h.at (by omega)
        have c0 := hcell 0 (by omega)
        rw [Nat.add_zero] at c0
        have c0' : ∀ o, (w.alloc o).cell? ⟨b, off, none⟩ = some (.int .u8 (z.getD 0 0)) := fun o => ((below_alloc w o).cell hbl).trans c0
        have h128 : ¬ z.getD 0 0 < 128 := fun hh => t ⟨rfl, rfl, hh⟩
        generalize z.getD 0 0 = x at c0 h128 c0'
        have d1 : decide (x < 128) = false := decide_eq_false h128
        clear h hcell e hn c0 t
        go_enter Tryd.func106, Tryd.ntmps106
        go_wp2_with fail
        refine ((unhide HH) _).mono ?_
        rintro e w2 ⟨a2, c2, cc, rfl, o2, b2⟩
        go_wp2_with fail
        go_ret
        exact ⟨a2, c2, rfl, ownsRow_base o2 (by simp), (below_alloc w _).trans (b2.mono (by simp))⟩
      · have d1 : (((n : Nat) : Int) == 1) = false := by simp; omega
        clear h e hn t
        go_enter Tryd.func106, Tryd.ntmps106
        go_wp2_with fail
        refine ((unhide HH) _).mono ?_
        rintro e w2 ⟨a2, c2, cc, rfl, o2, b2⟩
        go_wp2_with fail
        go_ret
        exact ⟨a2, c2, rfl, ownsRow_base o2 (by simp), (below_alloc w _).trans (b2.mono (by simp))⟩
    · clear h e hn t
      go_enter Tryd.func106, Tryd.ntmps106
      go_wp2_with fail
      refine ((unhide HH) _).mono ?_
      rintro e w2 ⟨a2, c2, cc, rfl, o2, b2⟩
      go_wp2_with fail
      go_ret
      exact ⟨a2, c2, rfl, ownsRow_base o2 (by simp), (below_alloc w _).trans (b2.mono (by simp))⟩

end Go.Proofs.YtbncoiljklagkaaDoor

/- What is proved here: a row that a call owns is a block of values; it holds for every program. -/
namespace Go.Proofs.YtbncoiljklagkaaDoor
open Go.RowKit
set_option linter.unusedVariables false

theorem own_vblk {w : World} {B g n : Nat} {e : TypeId} {size : Nat} {xs : List Value} (h : w.ownsRow B e size (.slice (some ⟨g, 0, none⟩) n n) n xs) : ∃ vs, VBlk w g vs e ∧ vs.length = n * size := by
  rcases h.2 with ⟨h', _⟩ | ⟨g', cap', cur, h', hb, hg, hnc, hcm, hcs, htake⟩
  · simp at h'
  · simp only [Value.slice.injEq, Option.some.injEq, Addr.mk.injEq, and_true, true_and] at h'
    obtain ⟨rfl, rfl⟩ := h'
    exact ⟨cur.toList, by unfold VBlk; simpa using hg, by simpa using hcs⟩

end Go.Proofs.YtbncoiljklagkaaDoor

/- What is proved here: what the program's headsOf answers for items without a fault: the head of each, in new memory. -/
namespace Go.Proofs.YtbncoiljklagkaaDoor
open Go.RowKit
set_option linter.unusedVariables false
set_option maxRecDepth 100000

theorem infoSl : (Tryd.prog.info? 22).map (fun i => (i.zero, i.size, i.bytes)) = some (some (.slice none 0 0), 1, 24) := by kernel_rfl
theorem info3 : (Tryd.prog.info? 3).map (fun i => (i.zero, i.size, i.bytes)) = some (some (.int .i64 0), 1, 8) := by kernel_rfl

/-- The head of the item at a place. -/
def hdAt (its : List It) (j : Nat) (it : It) : List Int := hdI it (cont hdI its j it).length

/-- The heads from place r on lie in the block gh. -/
def HdOk (w : World) (gh base : Nat) (its : List It) (r : Nat) (T : TypeId) : Prop :=
  ∃ hv : List Value, VBlk w gh hv T ∧ hv.length = its.length ∧ ∀ j it, r ≤ j → its[j]? = some it → ∃ a c, hv[j]? = some (.slice a (hdAt its j it).length c) ∧ w.ownsRow base 5 1 (.slice a (hdAt its j it).length c) (hdAt its j it).length ((hdAt its j it).map (Value.int .u8))

/-- What is in the items below r, of those from r on, lies in the block gw. -/
def WiOk (w : World) (gw : Nat) (its : List It) (r : Nat) (T : TypeId) : Prop :=
  ∃ ws : List Int, VBlk w gw (ws.map (Value.int .i64)) T ∧ ws.length = its.length ∧ ∀ i, i < r → i < its.length → ws[i]? = some ((eFrom hdI its i r).length : Int)

theorem HdOk.below {w w' : World} {gh base : Nat} {its : List It} {r : Nat} {T : TypeId} (h : HdOk w gh base its r T) {B : Nat} (hb : Below B w w') (hB : w.heap.size ≤ B) : HdOk w' gh base its r T := by
  obtain ⟨hv, h1, h2, h3⟩ := h
  refine ⟨hv, h1.below hb (Nat.lt_of_lt_of_le h1.lt hB), h2, fun j it hj hit => ?_⟩
  obtain ⟨a, c, q1, q2⟩ := h3 j it hj hit
  exact ⟨a, c, q1, own_below q2 hb hB⟩

theorem WiOk.below {w w' : World} {gw : Nat} {its : List It} {r : Nat} {T : TypeId} (h : WiOk w gw its r T) {B : Nat} (hb : Below B w w') (hB : w.heap.size ≤ B) : WiOk w' gw its r T := by
  obtain ⟨ws, h1, h2, h3⟩ := h
  exact ⟨ws, h1.below hb (Nat.lt_of_lt_of_le h1.lt hB), h2, h3⟩

theorem VBlk.other {w : World} {g g' i : Nat} {vs : List Value} {T : TypeId} {v : Value} (h : VBlk w g vs T) (hne : g ≠ g') : VBlk (w.setCell ⟨g', i, none⟩ v) g vs T := by
  unfold VBlk
  rw [heap_setCell_other w ⟨g', i, none⟩ g v hne]
  exact h

/-- One item more: what is in it is told, and its parent's is. -/
theorem WiOk.step {w' : World} {gw k : Nat} {its : List It} {T : TypeId} {it : It} {ws : List Int} (hU : UpOk its its.length) (hit : its[k]? = some it) (hl : ws.length = its.length) (hws : ∀ i, i < k + 1 → i < its.length → ws[i]? = some ((eFrom hdI its i (k + 1)).length : Int))
    (x y : Int) (hv : VBlk w' gw (((ws.set k x).set it.p.toNat y).map (Value.int .i64)) T) (hy : 0 < k → y = ((eFrom hdI its it.p.toNat k).length : Int)) (h0 : 0 < k) : WiOk w' gw its k T := by
  have hk := (List.getElem?_eq_some_iff.1 hit).1
  obtain ⟨_, u1⟩ := hU k it hk hit
  obtain ⟨p0, p1⟩ := u1 h0
  refine ⟨_, hv, by simp [hl], fun i hi hil => ?_⟩
  by_cases e : i = it.p.toNat
  · rw [e, List.getElem?_set_self (by simp; omega), hy h0]
  · rw [List.getElem?_set_ne (by omega), List.getElem?_set_ne (by omega), hws i (by omega) hil]
    unfold eFrom
    rw [kidsFrom_no (k := k) hk (by rw [pOf_some hit]; omega)]

theorem HdOk.step {w w' : World} {gh base k : Nat} {its : List It} {T : TypeId} {it : It} {a : Option Addr} {c : Nat} (h : HdOk w gh base its (k + 1) T) (hit : its[k]? = some it) (hb : Below w.heap.size w w') (hg : gh < base)
    (ho : w'.ownsRow base 5 1 (.slice a (hdAt its k it).length c) (hdAt its k it).length ((hdAt its k it).map (Value.int .u8))) :
    HdOk (w'.setCell ⟨gh, k, none⟩ (.slice a (hdAt its k it).length c)) gh base its k T := by
  have hk := (List.getElem?_eq_some_iff.1 hit).1
  obtain ⟨hv, h1, h2, h3⟩ := h.below hb (Nat.le_refl _)
  refine ⟨_, h1.set k _, by simp [h2], fun j jt hj hjt => ?_⟩
  by_cases e : j = k
  · subst e
    obtain rfl : jt = it := by rw [hit] at hjt; exact (Option.some.inj hjt).symm
    exact ⟨a, c, by rw [List.getElem?_set_self (by omega)], ownsRow_setCell_below ho hg _⟩
  · obtain ⟨a', c', q1, q2⟩ := h3 j jt (by omega) hjt
    exact ⟨a', c', by rw [List.getElem?_set_ne (by omega)]; exact q1, ownsRow_setCell_below q2 hg _⟩

theorem HdOk.stored {w : World} {gh base g i : Nat} {its : List It} {r : Nat} {T : TypeId} {v : Value} (h : HdOk w gh base its r T) (hne : gh ≠ g) (hg : g < base) : HdOk (w.setCell ⟨g, i, none⟩ v) gh base its r T := by
  obtain ⟨hv, h1, h2, h3⟩ := h
  refine ⟨hv, h1.other hne, h2, fun j it hj hit => ?_⟩
  obtain ⟨a, c, q1, q2⟩ := h3 j it hj hit
  exact ⟨a, c, q1, ownsRow_setCell_below q2 hg _⟩

set_option maxHeartbeats 8000000 in
theorem headsOf_any (a : Option Addr) (len cap : Nat) (its : List It) (N : NoFault its) (w : World) (h : ItRowN w a len its) :
    Calls Tryd.prog 92 #[.slice a len cap] w fun e w' => e = .returned (.slice (some ⟨w.heap.size, 0, none⟩) len len) ∧ HdOk w' w.heap.size (w.heap.size + 1) its 0 22 ∧ Below w.heap.size w w' := by
  obtain ⟨i0, hi, hz0, hz1, hz2⟩ := info_parts infoSl
  obtain ⟨j0, hj, hy0, hy1, hy2⟩ := info_parts info3
  have hlen := h.1.1
  have hl200 : len ≤ 200 := by rw [← hlen]; exact N.few
  have hl0 : 0 < len := by rw [← hlen]; exact N.some
  obtain ⟨b, off, rfl, hb, hat⟩ := h.at hl0
  have HAT := hide hat
  clear hat h
  go_enter Tryd.func92, Tryd.ntmps92
  go_wp2_with (at_make; refine wpList_make_full _ rfl _ _ 23 rfl w.heap.size 22 i0 (.slice none 0 0) 1 Tryd.underlying23 hi hz0 hz1 _ _ _ _ len rfl rfl rfl rfl ?c1 ?c2 ?c3 ?_)
  case c1 => rw [hz2]; omega
  case c2 => unfold maxLen; omega
  case c3 => omega
  intro w1 hown1 hgrow1
  obtain ⟨hv, hvb, hvl⟩ := own_vblk hown1
  have b1 : Below w.heap.size w w1 := (Below.refl _ _).grown hgrow1 (Nat.le_refl _) (fun k e => by cases e)
  have hgh : w.heap.size < w1.heap.size := hvb.lt
  clear hown1 hgrow1
  go_wp2_with (at_make; refine wpList_make_full _ rfl _ _ 101 rfl w1.heap.size 3 j0 (.int .i64 0) 1 Tryd.underlying101 hj hy0 hy1 _ _ _ _ len rfl rfl rfl rfl ?c1 ?c2 ?c3 ?_)
  case c1 => rw [hy2]; omega
  case c2 => unfold maxLen; omega
  case c3 => omega
  intro w2 hown2 hgrow2
  have b2 : Below w1.heap.size w1 w2 := (Below.refl _ _).grown hgrow2 (Nat.le_refl _) (fun k e => by cases e)
  have hvb2 := hvb.below b2 hgh
  have hw0 : WiOk w2 w1.heap.size its len 3 := by
    rcases hown2.2 with ⟨h', _⟩ | ⟨g', cap', cur, h', _, hg, hnc, hcm, hcs, htake⟩
    · simp at h'
    · simp only [Value.slice.injEq, Option.some.injEq, Addr.mk.injEq, and_true, true_and] at h'
      obtain ⟨rfl, rfl⟩ := h'
      have hcur : cur.toList = (List.replicate len (0 : Int)).map (Value.int .i64) := by
        have e := htake
        rw [List.take_of_length_le (by simp; omega)] at e
        rw [e]
        show (madeCells #[Value.int .i64 0] len).toList = _
        rw [toList_madeCells_one]
        simp
      refine ⟨List.replicate len 0, by unfold VBlk; rw [hg, ← hcur], by simp [hlen], fun i hi1 hi2 => ?_⟩
      have e0 : eFrom hdI its i len = [] := by unfold eFrom; rw [kidsFrom_end its _ len (by omega)]; rfl
      rw [e0, List.getElem?_replicate]
      simp [hi1]
  have hh0 : HdOk w2 w.heap.size (w1.heap.size + 1) its len 22 := ⟨hv, hvb2, by omega, fun j it hj1 hit => by have := (List.getElem?_eq_some_iff.1 hit).1; omega⟩
  have B2 := b1.trans (b2.mono b1.size)
  generalize w1.heap.size = gw at hw0 hh0 hgh
  have HW0 := hide hw0
  have HH0 := hide hh0
  have HB2 := hide B2
  clear hw0 hh0 B2 b1 b2 hvb hvb2 hvl hown2 hgrow2
  go_wp2_with fail
  go_loopw [5] (fun i wr => ∃ (r : Nat) (q : Int), r ≤ len ∧ q = (r : Int) - 1 ∧ i = .int .i64 q ∧ HdOk wr w.heap.size (gw + 1) its r 22 ∧ WiOk wr gw its r 3 ∧ Below w.heap.size w wr) (fun i _ => (intOf i + 1).toNat)
  case atStart => exact ⟨len, (len : Int) - 1, Nat.le_refl _, rfl, rfl, unhide HH0, unhide HW0, unhide HB2⟩
  case round =>
    obtain ⟨r, q, hr, hq, rfl, hHd, hWi, hbr⟩ := hrel
    clear HW0 HH0 HB2
    cases r with
    | zero =>
      obtain rfl : q = -1 := by omega
      clear hq
      have HH := hide hHd
      have HB := hide hbr
      clear hHd hWi hbr
      go_wp2_with fail
      go_ret
      refine ⟨rfl, ?_, unhide HB⟩
      obtain ⟨hv, q1, q2, q3⟩ := unhide HH
      refine ⟨hv, q1, q2, fun j it hj hit => ?_⟩
      obtain ⟨a, c, p1, p2⟩ := q3 j it hj hit
      exact ⟨a, c, p1, ownsRow_base p2 (by omega)⟩
    | succ k =>
      obtain rfl : q = (k : Int) := by omega
      clear hq
      obtain ⟨it, hit⟩ : ∃ it, its[k]? = some it := ⟨_, List.getElem?_eq_getElem (by omega)⟩
      obtain ⟨sa, sc, c0, c1, c2, hrow, hnil⟩ := (unhide HAT) k it hit
      have hbc := hbr.cell (p := ⟨b, off + k * 3, none⟩) hb
      have c0r := (hbr.cell (p := ⟨b, off + k * 3, none⟩) hb).trans c0
      have c1r := (hbr.cell (p := ⟨b, off + k * 3 + 1, none⟩) hb).trans c1
      have c2r := (hbr.cell (p := ⟨b, off + k * 3 + 2, none⟩) hb).trans c2
      obtain ⟨ws, hwv, hwl, hws⟩ := hWi
      have hwk := hws k (by omega) (by omega)
      have hE := eFrom_le hdI hdI_length N k (k + 1) (by omega) (by omega) (by omega)
      have hce := cont_eq hdI N.up hit
      have hcl : (cont hdI its k it).length = it.z.length + (eFrom hdI its k (k + 1)).length := by rw [hce, List.length_append]
      have hz3 := N.small it (List.mem_of_getElem? hit)
      have w0 : wr.cell? ⟨gw, k, none⟩ = some (.int .i64 ((eFrom hdI its k (k + 1)).length : Int)) := by rw [hwv.cell]; simp [hwk]
      have f0 := hwv.free k
      have i1 : (0 : Int) ≤ (k : Int) := by omega
      have i2 : (k : Int) < (len : Int) := by omega
      have HCL := hide hcl
      have HHD := hide hHd
      have HWV := hide hwv
      have HWS := hide hws
      have HB := hide hbr
      have HIT := hide hit
      have HROW := hide (hrow.below hbr (Nat.le_refl _))
      have HL := hide hlen
      have HWL := hide hwl
      obtain ⟨ek, hek⟩ : ∃ ek, ek = (eFrom hdI its k (k + 1)).length := ⟨_, rfl⟩
      obtain ⟨zl, hzl⟩ : ∃ zl, zl = it.z.length := ⟨_, rfl⟩
      rw [← hek] at w0 hE
      rw [← hzl] at c2r hz3
      have HEK := hide hek
      have HZL := hide hzl
      clear hcl hce hHd hwv hws hbr hit hrow hnil hlen hwl hwk c0 c1 c2 hbc hek hzl
      go_upto_region 6 with fail
      go_cut [5] (fun s wx => s = .int .i64 (k : Int) ∧ wx = (wr.setCell ⟨gw, k, none⟩ (.int .i64 ((ek : Int) + (zl : Int)))).drew)
      case first =>
        go_region
        go_wp2_with fail
        go_meet
        exact ⟨rfl, rfl⟩
      case rest =>
        obtain ⟨rfl, hwc⟩ := hcut
        have hsetb : Below w.heap.size w wc := by rw [hwc]; exact ((unhide HB).setCell (p := ⟨gw, k, none⟩) (by show w.heap.size ≤ gw; omega) _).drew
        have hgv : VBlk wc gw ((ws.set k ((ek : Int) + (zl : Int))).map (Value.int .i64)) 3 := by
          rw [hwc, List.map_set]; exact (unhide HWV).set k _
        have hhd : HdOk wc w.heap.size (gw + 1) its (k + 1) 22 := by
          rw [hwc]
          exact ((unhide HHD).stored (g := gw) (i := k) (by omega) (Nat.lt_succ_self _)).below (B := (wr.setCell ⟨gw, k, none⟩ (.int .i64 ((ek : Int) + (zl : Int)))).heap.size) ((Below.refl _ _).drew) (Nat.le_refl _)
        clear hwc w0 f0 c0r c1r c2r HWV HHD HB HROW
        obtain ⟨sa, sc, c0, c1, c2, hrow, hnil⟩ := (unhide HAT) k it (unhide HIT)
        have c0r := (hsetb.cell (p := ⟨b, off + k * 3, none⟩) hb).trans c0
        have c1r := (hsetb.cell (p := ⟨b, off + k * 3 + 1, none⟩) hb).trans c1
        have c2r := (hsetb.cell (p := ⟨b, off + k * 3 + 2, none⟩) hb).trans c2
        rw [← unhide HZL] at c2r
        have hkw : k < ws.length := by rw [unhide HWL]; exact (List.getElem?_eq_some_iff.1 (unhide HIT)).1
        have w0 : wc.cell? ⟨gw, k, none⟩ = some (.int .i64 ((ek : Int) + (zl : Int))) := by rw [hgv.cell]; simp [hkw]
        have hh : ∃ u, wc.cell? ⟨w.heap.size, k, none⟩ = some u := by
          obtain ⟨hv, q1, q2, _⟩ := hhd
          rw [q1.cell]
          exact ⟨_, List.getElem?_eq_getElem (by rw [q2, ← unhide HWL]; exact hkw)⟩
        obtain ⟨u0, hu0⟩ := hh
        have hf0 : wc.frozen? ⟨w.heap.size, k, none⟩ = false := by obtain ⟨hv, q1, _⟩ := hhd; exact q1.free k
        have hcn : (cont hdI its k it).length = ek + zl := by rw [unhide HCL, ← unhide HEK, ← unhide HZL]; omega
        have hleaf : it.l = false → ek + zl = it.z.length := fun hl => by
          have hk0 := N.leaf k it (unhide HIT) hl (k + 1)
          have : ek = 0 := by rw [unhide HEK]; unfold eFrom; rw [hk0]; rfl
          rw [this, ← unhide HZL]; omega
        have HC := hide (headOf_any it.l it.p sa it.z.length sc it.z (ek + zl) wc.drew ((hrow.below hsetb (Nat.le_refl _)).below (B := wc.heap.size) ((Below.refl _ _).drew) (Nat.le_refl _)) hleaf)
        have hda : hdI ⟨it.l, it.p, it.z⟩ (ek + zl) = hdAt its k it := by unfold hdAt; rw [hcn]
        rw [hda, ← unhide HZL] at HC
        have HSTEP := hide (fun (w' : World) (a : Option Addr) (c : Nat) (hb' : Below wc.heap.size wc w') (ho : w'.ownsRow (gw + 1) 5 1 (.slice a (hdAt its k it).length c) (hdAt its k it).length ((hdAt its k it).map (Value.int .u8))) => hhd.step (unhide HIT) hb' (by omega) ho)
        have hgwl : gw < wc.heap.size := hgv.lt
        have HGV := hide hgv
        have HB := hide hsetb
        have hhl : (hdAt its k it).length ≤ 8 := hdI_length _ _
        obtain ⟨hl8, hhl8⟩ : ∃ hl8, hl8 = (hdAt its k it).length := ⟨_, rfl⟩
        rw [← hhl8] at HC HSTEP hhl
        have HH8 := hide hhl8
        generalize it.l = il at c0r HC
        have e64 : (((ek + zl : Nat)) : Int) = (ek : Int) + (zl : Int) := by omega
        rw [e64] at HC
        clear hhd hgv hsetb c0 c1 c2 hrow hnil hda hcn hleaf hhl8 hkw
        go_upto_region 7 with fail
        go_cut [5] (fun s wx => s = .int .i64 (k : Int) ∧ HdOk wx w.heap.size (gw + 1) its k 22 ∧ VBlk wx gw ((ws.set k ((ek : Int) + (zl : Int))).map (Value.int .i64)) 3 ∧ Below w.heap.size w wx ∧ ∃ a' c', wx.cell? ⟨w.heap.size, k, none⟩ = some (.slice a' hl8 c'))
        case first =>
          go_region_with (first | (go_at_call 106; refine (unhide HC).mono ?_; rintro e w4 ⟨a4, c4, rfl, o4, b4⟩; have u4 := (b4.cell (p := ⟨w.heap.size, k, none⟩) (by show w.heap.size < wc.heap.size; omega)).trans hu0; have f4 := (b4.frozen (p := ⟨w.heap.size, k, none⟩) (by show w.heap.size < wc.heap.size; omega)).trans hf0))
          all_goals
            go_wp2_with fail
            go_meet
            have K4 : Below wc.heap.size wc w4 := ((Below.refl _ _).drew).trans b4
            refine ⟨rfl, (unhide HSTEP) w4 a4 c4 K4 (ownsRow_base (by rw [unhide HH8] at o4; rw [← unhide HH8] at o4; exact o4) (by show gw + 1 ≤ wc.heap.size; omega)), ((unhide HGV).below K4 hgwl).other (by omega), ((unhide HB).trans (K4.mono (unhide HB).size)).setCell (Nat.le_refl _) _, a4, c4, World.cell?_setCell_same' _ _ _ (by rw [u4]; rfl)⟩
        case rest =>
          obtain ⟨rfl, hHd2, hWv2, hb2, a4, c4, hc4⟩ := hcut
          clear hu0 hf0 w0 c0r c1r c2r HSTEP HGV HB HC hgwl
          have hkl : k < its.length := (List.getElem?_eq_some_iff.1 (unhide HIT)).1
          have HHD2 := hide hHd2
          have HB2 := hide hb2
          have HWV2 := hide hWv2
          have hw0 : wc.cell? ⟨gw, k, none⟩ = some (.int .i64 ((ek : Int) + (zl : Int))) := by rw [hWv2.cell]; simp [unhide HWL, hkl]
          by_cases k0 : k = 0
          · have dk : decide ((0 : Int) < (k : Int)) = false := decide_eq_false (by omega)
            have dk' : decide (0 < k) = false := decide_eq_false (by omega)
            have HK0 := hide k0
            clear hHd2 hWv2 hb2 hw0 hc4 k0
            go_wp2_with fail
            go_roundw
            case rel =>
              refine ⟨k, (k : Int) - 1, by omega, rfl, rfl, unhide HHD2, ⟨_, unhide HWV2, by rw [List.length_set]; exact unhide HWL, fun i hi => ?_⟩, unhide HB2⟩
              rw [unhide HK0] at hi
              exact absurd hi (Nat.not_lt_zero _)
            case measure => simp [intOf]
          · have dk : decide ((0 : Int) < (k : Int)) = true := decide_eq_true (by omega)
            obtain ⟨_, u1⟩ := N.up k it hkl (unhide HIT)
            obtain ⟨p0, p1⟩ := u1 (by omega)
            obtain ⟨q, hq⟩ : ∃ q : Nat, it.p = (q : Int) := ⟨it.p.toNat, by omega⟩
            have hqk : q < k := by omega
            have hqt : it.p.toNat = q := by omega
            obtain ⟨sa, sc, _, c1, _, _, _⟩ := (unhide HAT) k it (unhide HIT)
            rw [hq] at c1
            have c1r := (hb2.cell (p := ⟨b, off + k * 3 + 1, none⟩) hb).trans c1
            obtain ⟨eq_, heq⟩ : ∃ eq_, eq_ = (eFrom hdI its q (k + 1)).length := ⟨_, rfl⟩
            have hEq := eFrom_le hdI hdI_length N q (k + 1) (by omega) (by omega) (by omega)
            rw [← heq] at hEq
            have hwq : wc.cell? ⟨gw, q, none⟩ = some (.int .i64 (eq_ : Int)) := by
              rw [hWv2.cell, heq, List.getElem?_map, List.getElem?_set_ne (by omega), (unhide HWS) q (by omega) (by omega)]
              rfl
            have hfq := hWv2.free q
            have hsum : ((eFrom hdI its q k).length : Int) = (eq_ : Int) + ((hl8 : Int) + ((ek : Int) + (zl : Int))) := by
              have e1 : eFrom hdI its q k = enc hdI its k ++ eFrom hdI its q (k + 1) := by
                unfold eFrom
                rw [kidsFrom_yes hkl (by rw [pOf_some (unhide HIT)]; exact hq), List.flatMap_cons]
              rw [e1, List.length_append, enc_eq hdI N.up (unhide HIT), List.length_append, ← heq]
              have e2 : (hdI it (cont hdI its k it).length).length = hl8 := (unhide HH8).symm
              have e3 := unhide HCL
              rw [← unhide HEK, ← unhide HZL] at e3
              omega
            have HSUM := hide hsum
            have HQT := hide hqt
            have j1 : (0 : Int) ≤ (q : Int) := by omega
            have j2 : (q : Int) < (len : Int) := by omega
            have hne : q ≠ k := by omega
            clear hHd2 hWv2 hb2 hsum hqt heq c1 hq p0 p1
            go_upto_region 9 with fail
            have HRES : Hid (HdOk ((wc.setCell ⟨gw, q, none⟩ (.int .i64 ((eq_ : Int) + ((hl8 : Int) + ((ek : Int) + (zl : Int)))))).drew) w.heap.size (gw + 1) its k 22 ∧ WiOk ((wc.setCell ⟨gw, q, none⟩ (.int .i64 ((eq_ : Int) + ((hl8 : Int) + ((ek : Int) + (zl : Int)))))).drew) gw its k 3 ∧ Below w.heap.size w ((wc.setCell ⟨gw, q, none⟩ (.int .i64 ((eq_ : Int) + ((hl8 : Int) + ((ek : Int) + (zl : Int)))))).drew)) := by
              refine ⟨?_, ?_, ?_⟩
              · exact ((unhide HHD2).stored (g := gw) (i := q) (by omega) (Nat.lt_succ_self _)).below (B := (wc.setCell ⟨gw, q, none⟩ (.int .i64 ((eq_ : Int) + ((hl8 : Int) + ((ek : Int) + (zl : Int)))))).heap.size) ((Below.refl _ _).drew) (Nat.le_refl _)
              · refine WiOk.step N.up (unhide HIT) (unhide HWL) (unhide HWS) ((ek : Int) + (zl : Int)) ((eq_ : Int) + ((hl8 : Int) + ((ek : Int) + (zl : Int)))) ?_ (fun _ => ?_) (by omega)
                · rw [unhide HQT, List.map_set]
                  exact (unhide HWV2).set q _
                · rw [unhide HQT]; exact (unhide HSUM).symm
              · exact ((unhide HB2).setCell (p := ⟨gw, q, none⟩) (by show w.heap.size ≤ gw; omega) _).drew
            go_region
            all_goals
              clear hwq hfq c1r hw0 hc4
              go_wp2_with fail
              go_roundw
              case rel => exact ⟨k, (k : Int) - 1, by omega, rfl, rfl, (unhide HRES).1, (unhide HRES).2.1, (unhide HRES).2.2⟩
              case measure => simp [intOf]

end Go.Proofs.YtbncoiljklagkaaDoor

/- What is proved here: the program's iterator over the way up from an item (wayUp), and its two callers (isUpFrom, deepOf): what they answer, and that nothing that lay before has turned. -/
namespace Go.Proofs.YtbncoiljklagkaaDoor
open Go.RowKit Go.Shelf
set_option linter.unusedVariables false

attribute [local go_sem] Oper.semAt_some

/-- What a round of a loop over the way keeps: what lay below n0, and the cell of one block. -/
def KpW (n0 Bi : Nat) (W W' : World) : Prop := Below n0 W W' ∧ ∀ v, W.cell? ⟨Bi, 0, none⟩ = some v → W'.cell? ⟨Bi, 0, none⟩ = some v

theorem kpW_t {n0 Bi : Nat} {A B C : World} (h : KpW n0 Bi A B) (k : KpW n0 Bi B C) : KpW n0 Bi A C := ⟨h.1.trans k.1, fun v hv => k.2 v (h.2 v hv)⟩

theorem kpW_b {n0 Bi : Nat} {w : World} (hn : n0 ≤ w.heap.size) (W : World) (l : Nat) (o o' : Obj) (hl : w.heap.size ≤ l) (h : W.heap[l]? = some o) (hc : o.isCells = false) (hw : o.isWalk = false) : KpW n0 Bi W (W.putObj l o') :=
  ⟨belowK_b hn W l o o' hl h hc hw, fun v hv => cell_kept hv (grownBy_putObj' W l o') (fun r e => by cases e; exact ⟨_, h, hc⟩)⟩

theorem new_cell (W : World) (v : Value) (t : TypeId) : (W.alloc (.cells #[v] t)).cell? ⟨W.heap.size, 0, none⟩ = some v ∧ (W.alloc (.cells #[v] t)).frozen? ⟨W.heap.size, 0, none⟩ = false := by
  constructor <;> simp

theorem old_cell {W : World} {a : Addr} {v : Value} (o : Obj) (h : W.cell? a = some v) : (W.alloc o).cell? a = some v := cell_kept h (World.grownBy_alloc W o none) (fun r e => by cases e)
theorem old_free {W : World} {a : Addr} {v : Value} (o : Obj) (h : W.cell? a = some v) (hf : W.frozen? a = false) : (W.alloc o).frozen? a = false := (frozen_kept h (World.grownBy_alloc W o none) (fun r e => by cases e)).trans hf

set_option maxRecDepth 100000 in
set_option maxHeartbeats 2000000 in
theorem way1_in (F : Fence) (n : Nat) (hfn : F.fn 117) (hro : F.round = none) (hn : 1 ≤ n) (l Bf Bi : Nat) (from_ : Int) (a : Option Addr) (len cap : Nat) (its : List It) (xs : List Nat) (w0 : World) (hI : ItRow w0 a len its) (hl : len ≤ 1048576)
    (J Jx : List Nat → World → Prop)
    (hY : ∀ pre (x : Nat) W, J pre W → pre.length < xs.length → YieldAt F (n - 1) Tryd.prog l #[.int .i64 (x : Int)] W fun e W' =>
      (e = .returned (.bool true) ∧ J (pre ++ [x]) W' ∧ KpW w0.heap.size Bi W W') ∨ (e = .returned (.bool false) ∧ Jx (pre ++ [x]) W'))
    (W : World) (hB0 : Below w0.heap.size w0 W) (hBf : W.cell? ⟨Bf, 0, none⟩ = some (.int .i64 from_)) (hBi : W.cell? ⟨Bi, 0, none⟩ = some (.slice a len cap)) (hL : IsWay its from_ xs) (h0 : J [] W) :
    CallsIn F n Tryd.prog 117 #[.func (.yield l) #[] #[], .pointer (some ⟨Bf, 0, none⟩), .pointer (some ⟨Bi, 0, none⟩)] W fun e W' => (∃ v, e = .returned v) ∧
      ((∃ ys, ys = xs ∧ J ys W') ∨ (∃ pre, pre <+: xs ∧ Jx pre W')) := by
  have HI := hide hI
  have HL := hide hL
  clear hI hL
  refine callsIn_of_wp Tryd.func117 rfl hfn ?_ hro
  simp only [Tryd.ntmps117, List.size_toArray, List.length_cons, List.length_nil, Nat.reduceAdd, Nat.reduceSub, Array.replicate_succ, Array.replicate_zero, List.push_toArray, List.append_toArray, List.nil_append, List.cons_append]
  gi_wp2
  gi_loopw [4] (fun p wr => ∃ (pre rest : List Nat) (q : Int), p = .int .i64 q ∧ xs = pre ++ rest ∧ IsWay its q rest ∧ Below w0.heap.size w0 wr ∧ wr.cell? ⟨Bi, 0, none⟩ = some (.slice a len cap) ∧ J pre wr)
    (fun p wr => (intOf p + 1).toNat)
  case atStart =>
    exact ⟨[], xs, from_, rfl, rfl, unhide HL, hB0, hBi, h0⟩
  case round =>
    obtain ⟨pre, rest, q, rfl, hx, hw, hb, hbi, hJs⟩ := hrel
    clear hB0 hBf hBi h0 HL
    cases rest with
    | nil =>
      obtain rfl : q = -1 := hw
      gi_wp2
      go_end0
      exact ⟨⟨_, rfl⟩, .inl ⟨pre, by simp [hx], hJs⟩⟩
    | cons k rest =>
      obtain ⟨rfl, it, hit, hge, hlt, hr⟩ := hw
      have hkl : k < len := by rw [← (unhide HI).1]; exact (List.getElem?_eq_some_iff.1 hit).1
      obtain ⟨b, off, rfl, hbl, hat⟩ := (unhide HI).at (by omega)
      obtain ⟨sa, sl, sc, c0, c1, c2, _⟩ := hat k it hit
      obtain ⟨fn, tmps, assign, body, hy, hR⟩ := hY pre k wr hJs (by rw [hx]; simp)
      have hne : (((k : Nat) : Int) != -1) = true := by simp
      have HX := hide hx
      have HR := hide hr
      have HJ := hide hJs
      clear hx hr hJs hat
      gi_wp2
      refine hR.mono ?_
      rintro e W3 (⟨rfl, hJ3, hk3⟩ | ⟨rfl, hJx3⟩)
      · have hb3 : Below w0.heap.size w0 W3 := hb.trans hk3.1
        have hbi3 := hk3.2 _ hbi
        have hp3 : W3.cell? ⟨b, off + k * 3 + 1, none⟩ = some (.int .i64 it.p) := (hb3.cell (p := ⟨b, off + k * 3 + 1, none⟩) hbl).trans c1
        have i1 : (0 : Int) ≤ (k : Int) := by omega
        have i2 : (k : Int) < (len : Int) := by omega
        have HJ3 := hide hJ3
        have HB3 := hide hb3
        generalize it.p = pp at hp3 hge hlt HR
        clear hJ3 hb3 hk3 c0 c1 c2 hbi hb
        gi_wp2
        go_roundw
        case rel => exact ⟨pre ++ [k], rest, pp, rfl, by rw [unhide HX]; simp, unhide HR, unhide HB3, hbi3, unhide HJ3⟩
        case measure => simp [intOf]; omega
      · gi_wp2
        refine bodyPost_ret (results_none rfl _ _ _) rfl ?_
        exact ⟨⟨_, rfl⟩, .inr ⟨pre ++ [k], ⟨rest, by rw [unhide HX]; simp⟩, hJx3⟩⟩

set_option maxHeartbeats 1000000 in
theorem wayUp_in (F : Fence) (n : Nat) (hfn : F.fn 115) (hro : F.round = none) (a : Option Addr) (len cap : Nat) (from_ : Int) (w : World) :
    CallsIn F n Tryd.prog 115 #[.slice a len cap, .int .i64 from_] w fun e w' => e = .returned (.func (.func 117) #[] #[.pointer (some ⟨w.heap.size + 1, 0, none⟩), .pointer (some ⟨w.heap.size, 0, none⟩)]) ∧ w' = (w.alloc (.cells #[.slice a len cap] 75)).alloc (.cells #[.int .i64 from_] 2) := by
  refine callsIn_of_wp Tryd.func115 rfl hfn ?_ hro
  simp only [Tryd.ntmps115, List.size_toArray, List.length_cons, List.length_nil, Nat.reduceAdd, Nat.reduceSub, Array.replicate_succ, Array.replicate_zero, List.push_toArray, List.append_toArray, List.nil_append, List.cons_append]
  gi_wp2
  go_ret
  exact ⟨rfl, rfl⟩

theorem way_stops (F : Fence) (n : Nat) (hfn : F.fn 117) (hro : F.round = none) (hn : 1 ≤ n) (Bf Bi : Nat) (from_ : Int) (a : Option Addr) (len cap : Nat) (its : List It) (xs : List Nat) (w0 w : World) (hI : ItRow w0 a len its) (hl : len ≤ 1048576)
    (hb : Below w0.heap.size w0 w) (hBf : Bf < w.heap.size) (hBi : Bi < w.heap.size) (cf : w.cell? ⟨Bf, 0, none⟩ = some (.int .i64 from_)) (ci : w.cell? ⟨Bi, 0, none⟩ = some (.slice a len cap)) (hL : IsWay its from_ xs) :
    SeqStopsK F n Tryd.prog 117 #[.pointer (some ⟨Bf, 0, none⟩), .pointer (some ⟨Bi, 0, none⟩)] (fun x : Nat => #[Value.int .i64 (x : Int)]) (KpW w0.heap.size Bi) (fun ys => ys = xs) (fun pre => pre <+: xs) xs.length w := fun l J Jx W hW _ _ hY h0 =>
  way1_in F n hfn hro hn l Bf Bi from_ a len cap its xs w0 hI hl J Jx hY W (hb.trans (hW.mono hb.size)) ((hW.cell (p := ⟨Bf, 0, none⟩) hBf).trans cf) ((hW.cell (p := ⟨Bi, 0, none⟩) hBi).trans ci) hL h0

set_option maxRecDepth 100000 in
set_option maxHeartbeats 2000000 in
theorem deepOf_in (F : Fence) (n : Nat) (hf1 : F.fn 113) (hf2 : F.fn 115) (hf3 : F.fn 117) (hro : F.round = none) (hn : 3 ≤ n) (a : Option Addr) (len cap : Nat) (its : List It) (from_ : Int) (xs : List Nat) (w : World)
    (hI : ItRow w a len its) (hl : len ≤ 1048576) (hL : IsWay its from_ xs) (hxl : xs.length ≤ 2097152) :
    CallsIn F n Tryd.prog 113 #[.slice a len cap, .int .i64 from_] w fun e W' => e = .returned (.int .i64 (xs.length : Int)) ∧ Below w.heap.size w W' := by
  have h1 : 1 ≤ n := by omega
  refine callsIn_of_wp_marks Tryd.func113 rfl hf1 ?_ hro
  simp only [Tryd.ntmps113, List.size_toArray, List.length_cons, List.length_nil, Nat.reduceAdd, Nat.reduceSub, Array.replicate_succ, Array.replicate_zero, List.push_toArray, List.append_toArray, List.nil_append, List.cons_append]
  gi_wp2_with (gi_at_call 115; refine (wayUp_in F (n - 1) hf2 hro _ _ _ _ _).mono ?_; rintro e w' ⟨rfl, rfl⟩)
  have c0 := new_cell w (.int .i64 0) 2
  have c1 := new_cell (w.alloc (.cells #[.int .i64 0] 2)) (.slice a len cap) 75
  have c2 := new_cell ((w.alloc (.cells #[.int .i64 0] 2)).alloc (.cells #[.slice a len cap] 75)) (.int .i64 from_) 2
  simp only [World.size_alloc] at c1 c2
  have hB0 : Below w.heap.size w (((w.alloc (.cells #[.int .i64 0] 2)).alloc (.cells #[.slice a len cap] 75)).alloc (.cells #[.int .i64 from_] 2)) := (((Below.refl _ w).alloc (Nat.le_refl _) _).alloc (by simp) _).alloc (by simp; omega) _
  refine wpIn_rangeFunc_ownF hro h1 (gf := 117) (lb := #[.pointer (some ⟨w.heap.size + 1 + 1, 0, none⟩), .pointer (some ⟨w.heap.size + 1, 0, none⟩)]) rfl hf3 (enters_of Tryd.func117 (by kernel_rfl) rfl)
    (way_stops F (n - 1) hf3 hro (by omega) (w.heap.size + 1 + 1) (w.heap.size + 1) from_ a len cap its xs w _ hI hl hB0 (by simp) (by simp) c2.1 (old_cell _ c1.1) hL) kpW_t (kpW_b (by simp; omega)) (Below.refl _ _) (fun _ => rfl)
    (fun pre W => (W.cell? ⟨w.heap.size, 0, none⟩ = some (.int .i64 (pre.length : Int)) ∧ W.frozen? ⟨w.heap.size, 0, none⟩ = false) ∧ Below w.heap.size w W)
    (fun _ _ _ => False)
    (OwnFrom.and (Own.from (fun s A B row hs hg hr => ⟨cell_kept hs.1 hg hr, (frozen_kept hs.1 hg hr).trans hs.2⟩) _) (ownFrom_below (Nat.le_refl _) (by simp; omega)))
    (fun _ _ _ _ _ hs _ _ => hs)
    ⟨⟨old_cell _ (old_cell _ c0.1), old_free _ (old_cell _ c0.1) (old_free _ c0.1 c0.2)⟩, hB0⟩
    (fun x => { tmps := #[.slice a len cap, .int .i64 from_, undef, undef, .int .i64 0, .pointer (some ⟨w.heap.size, 0, none⟩), .slice a len cap, .int .i64 from_, .func (.func 117) #[] #[.pointer (some ⟨w.heap.size + 1 + 1, 0, none⟩), .pointer (some ⟨w.heap.size + 1, 0, none⟩)], .int .i64 (x : Int), undef, undef, undef], defers := [] }) ?assign ?body ?done ?stop
  case assign =>
    intro l x W K hK
    gi_wp2
    simpa using hK
  case body =>
    rintro l pre x W ⟨⟨hc, hf⟩, hB⟩ hlt
    have hp : ((pre.length : Nat) : Int) + 1 ≤ 2097152 := by omega
    have hp0 : (0 : Int) ≤ ((pre.length : Nat) : Int) := by omega
    have he : (((pre ++ [x]).length : Nat) : Int) = ((pre.length : Nat) : Int) + 1 := by simp
    have HE := hide he
    clear he
    generalize ((pre.length : Nat) : Int) = m at hc hp hp0 HE
    gi_wp2
    refine ⟨KeepsOthers.setCell _ _ _, ⟨(Below.refl w.heap.size W).setCell (p := ⟨w.heap.size, 0, none⟩) (Nat.le_refl _) _, fun v hv => ?_⟩, ⟨?_, by rw [World.frozen?_setCell]; exact hf⟩, hB.setCell (p := ⟨w.heap.size, 0, none⟩) (Nat.le_refl _) _⟩
    · rw [← hv]; exact World.cell?_of_block (Below.heap_setCell W ⟨w.heap.size, 0, none⟩ _ (w.heap.size + 1) (by simp))
    · rw [unhide HE]; exact World.cell?_setCell_same' _ _ _ (by rw [hc]; rfl)
  case done =>
    rintro D ys W hD rfl ⟨⟨hc, _⟩, hB⟩ hK
    gi_wp2
    refine ⟨by simp, .inl ⟨_, _, rfl, run_takeDeferred hK, ?_⟩⟩
    exact ⟨_, results_tmp rfl _ _ _, rfl, hB.trans (belowK_b (w := w) (Nat.le_refl _) W D _ _ (by simp at hD; omega) hK rfl rfl)⟩
  case stop =>
    rintro D c pre W _ _ h _
    exact h.elim

set_option maxRecDepth 100000 in
set_option maxHeartbeats 2000000 in
theorem isUpFrom_in (F : Fence) (n : Nat) (hf1 : F.fn 112) (hf2 : F.fn 115) (hf3 : F.fn 117) (hro : F.round = none) (hn : 3 ≤ n) (a : Option Addr) (len cap : Nat) (its : List It) (from_ : Int) (q : Nat) (xs : List Nat) (w : World)
    (hI : ItRow w a len its) (hl : len ≤ 1048576) (hL : IsWay its from_ xs) :
    CallsIn F n Tryd.prog 112 #[.slice a len cap, .int .i64 from_, .int .i64 (q : Int)] w fun e W' => e = .returned (.bool (decide (q ∈ xs))) ∧ Below w.heap.size w W' := by
  have h1 : 1 ≤ n := by omega
  refine callsIn_of_wp_marks Tryd.func112 rfl hf1 ?_ hro
  simp only [Tryd.ntmps112, List.size_toArray, List.length_cons, List.length_nil, Nat.reduceAdd, Nat.reduceSub, Array.replicate_succ, Array.replicate_zero, List.push_toArray, List.append_toArray, List.nil_append, List.cons_append]
  gi_wp2_with (gi_at_call 115; refine (wayUp_in F (n - 1) hf2 hro _ _ _ _ _).mono ?_; rintro e w' ⟨rfl, rfl⟩)
  have c0 := new_cell w (.int .i64 (q : Int)) 2
  have c1 := new_cell (w.alloc (.cells #[.int .i64 (q : Int)] 2)) (.bool false) 4
  have c2 := new_cell ((w.alloc (.cells #[.int .i64 (q : Int)] 2)).alloc (.cells #[.bool false] 4)) (.slice a len cap) 75
  have c3 := new_cell (((w.alloc (.cells #[.int .i64 (q : Int)] 2)).alloc (.cells #[.bool false] 4)).alloc (.cells #[.slice a len cap] 75)) (.int .i64 from_) 2
  simp only [World.size_alloc] at c1 c2 c3
  have hB0 : Below w.heap.size w ((((w.alloc (.cells #[.int .i64 (q : Int)] 2)).alloc (.cells #[.bool false] 4)).alloc (.cells #[.slice a len cap] 75)).alloc (.cells #[.int .i64 from_] 2)) := ((((Below.refl _ w).alloc (Nat.le_refl _) _).alloc (by simp) _).alloc (by simp; omega) _).alloc (by simp; omega) _
  refine wpIn_rangeFunc_ownF hro h1 (gf := 117) (lb := #[.pointer (some ⟨w.heap.size + 1 + 1 + 1, 0, none⟩), .pointer (some ⟨w.heap.size + 1 + 1, 0, none⟩)]) rfl hf3 (enters_of Tryd.func117 (by kernel_rfl) rfl)
    (way_stops F (n - 1) hf3 hro (by omega) (w.heap.size + 1 + 1 + 1) (w.heap.size + 1 + 1) from_ a len cap its xs w _ hI hl hB0 (by simp) (by simp) c3.1 (old_cell _ c2.1) hL) kpW_t (kpW_b (by simp; omega)) (Below.refl _ _) (fun _ => rfl)
    (fun pre W => ((∀ y ∈ pre, y ≠ q) ∧ W.cell? ⟨w.heap.size, 0, none⟩ = some (.int .i64 (q : Int)) ∧ W.cell? ⟨w.heap.size + 1, 0, none⟩ = some (.bool false) ∧ W.frozen? ⟨w.heap.size + 1, 0, none⟩ = false) ∧ Below w.heap.size w W)
    (fun c pre W => (c = .ret ∧ q ∈ pre ∧ W.cell? ⟨w.heap.size + 1, 0, none⟩ = some (.bool true)) ∧ Below w.heap.size w W)
    (OwnFrom.and (Own.from (fun s A B row hs hg hr => ⟨hs.1, cell_kept hs.2.1 hg hr, cell_kept hs.2.2.1 hg hr, (frozen_kept hs.2.2.1 hg hr).trans hs.2.2.2⟩) _) (ownFrom_below (Nat.le_refl _) (by simp; omega)))
    (fun c => OwnFrom.and (Own.from (fun s A B row hs hg hr => ⟨hs.1, hs.2.1, cell_kept hs.2.2 hg hr⟩) _) (ownFrom_below (Nat.le_refl _) (by simp; omega)))
    ⟨⟨by simp, old_cell _ (old_cell _ (old_cell _ c0.1)), old_cell _ (old_cell _ c1.1), old_free _ (old_cell _ c1.1) (old_free _ c1.1 c1.2)⟩, hB0⟩
    (fun x => { tmps := #[.slice a len cap, .int .i64 from_, .int .i64 (q : Int), undef, undef, .pointer (some ⟨w.heap.size, 0, none⟩), .pointer (some ⟨w.heap.size + 1, 0, none⟩), .int .i64 (x : Int), .slice a len cap, .int .i64 from_, .func (.func 117) #[] #[.pointer (some ⟨w.heap.size + 1 + 1 + 1, 0, none⟩), .pointer (some ⟨w.heap.size + 1 + 1, 0, none⟩)], .int .i64 (x : Int), undef, undef, undef], defers := [] }) ?assign ?body ?done ?stop
  case assign =>
    intro l x W K hK
    gi_wp2
    exact hK
  case body =>
    rintro l pre x W ⟨⟨hp, hcw, hcr, hfr⟩, hB⟩ _
    by_cases hx : x = q
    · subst hx
      gi_wp2
      exact ⟨KeepsOthers.setCell _ _ _, ⟨rfl, List.mem_append.2 (.inr (by simp)), World.cell?_setCell_same' _ _ _ (by rw [hcr]; rfl)⟩, hB.setCell (p := ⟨w.heap.size + 1, 0, none⟩) (by simp) _⟩
    · have hne : (((x : Nat) : Int) == ((q : Nat) : Int)) = false := by simp; omega
      gi_wp2
      exact ⟨KeepsOthers.refl _, ⟨Below.refl _ _, fun v hv => hv⟩, ⟨fun y hy => (List.mem_append.1 hy).elim (hp y) (fun e e' => by simp at e; subst e; exact hx e'), hcw, hcr, hfr⟩, hB⟩
  case done =>
    rintro D ys W hD rfl ⟨⟨hne, _, hcr, hfr⟩, hB⟩ hK
    gi_wp2
    have hK' := (KeepsOthers.setCell W ⟨w.heap.size + 1, 0, none⟩ (.bool false)).same D _ hK rfl
    refine ⟨by simp, .inl ⟨_, _, rfl, run_takeDeferred hK', ?_⟩⟩
    have hc5 := cell_kept (World.cell?_setCell_same' W ⟨w.heap.size + 1, 0, none⟩ (.bool false) (by rw [hcr]; rfl)) (grownBy_putObj' _ D (.deferred none)) (fun r e => by cases e; exact ⟨_, hK', rfl⟩)
    refine ⟨.bool false, ?_, by rw [decide_eq_false (fun h => hne q h rfl)], (hB.setCell (p := ⟨w.heap.size + 1, 0, none⟩) (by simp) _).trans (belowK_b (w := w) (Nat.le_refl _) _ D _ _ (by simp at hD; omega) hK' rfl rfl)⟩
    simp [results, Tryd.results112, go_sem, hc5]
  case stop =>
    rintro D c pre W hD hpre ⟨⟨rfl, hin, hcr⟩, hB⟩ hK
    gi_wp2
    refine ⟨by simp, .inl ⟨_, _, rfl, run_takeDeferred hK, ?_⟩⟩
    have hc5 := cell_kept hcr (grownBy_putObj' _ D (.deferred none)) (fun r e => by cases e; exact ⟨_, hK, rfl⟩)
    refine ⟨.bool true, ?_, by rw [decide_eq_true (hpre.subset hin)], hB.trans (belowK_b (w := w) (Nat.le_refl _) W D _ _ (by simp at hD; omega) hK rfl rfl)⟩
    simp [results, Tryd.results112, go_sem, hc5]

theorem deepOf_any (a : Option Addr) (len cap : Nat) (its : List It) (from_ : Int) (xs : List Nat) (w : World) (hI : ItRow w a len its) (hl : len ≤ 1048576) (hL : IsWay its from_ xs) (hxl : xs.length ≤ 2097152) :
    Calls Tryd.prog 113 #[.slice a len cap, .int .i64 from_] w fun e W' => e = .returned (.int .i64 (xs.length : Int)) ∧ Below w.heap.size w W' :=
  (callsIn_wide (n := 3)).1 (deepOf_in _ 3 trivial trivial trivial rfl (Nat.le_refl _) a len cap its from_ xs w hI hl hL hxl)

theorem isUpFrom_any (a : Option Addr) (len cap : Nat) (its : List It) (from_ : Int) (q : Nat) (xs : List Nat) (w : World) (hI : ItRow w a len its) (hl : len ≤ 1048576) (hL : IsWay its from_ xs) :
    Calls Tryd.prog 112 #[.slice a len cap, .int .i64 from_, .int .i64 (q : Int)] w fun e W' => e = .returned (.bool (decide (q ∈ xs))) ∧ Below w.heap.size w W' :=
  (callsIn_wide (n := 3)).1 (isUpFrom_in _ 3 trivial trivial trivial rfl (Nat.le_refl _) a len cap its from_ q xs w hI hl hL)

end Go.Proofs.YtbncoiljklagkaaDoor

/- What is proved here: what the program's itemFault and ItemsFault answer: the fault of an item whose forerunners have none, and the first fault of items. -/
namespace Go.Proofs.YtbncoiljklagkaaDoor
open Go.RowKit
set_option linter.unusedVariables false

theorem below_set3 (w : World) (x y z u v t : Value) (T : TypeId) : Below w.heap.size w (((((w.alloc (.cells #[x, y, z] T)).setCell ⟨w.heap.size, 0, none⟩ u).setCell ⟨w.heap.size, 1, none⟩ v).setCell ⟨w.heap.size, 2, none⟩ t)) :=
  (((below_alloc w _).setCell (Nat.le_refl _) _).setCell (Nat.le_refl _) _).setCell (Nat.le_refl _) _

set_option maxHeartbeats 4000000 in
theorem itemFault_any (a : Option Addr) (len cap : Nat) (its : List It) (k : Nat) (it : It) (w : World) (h : ItRow w a len its) (hl : len ≤ 1048576) (hit : its[k]? = some it) (hup : UpOk its k) :
    Calls Tryd.prog 105 #[.slice a len cap, .int .i64 (k : Int)] w fun e w' => e = .returned (.int .i64 (fltAt its k it)) ∧ Below w.heap.size w w' := by
  have hkl : k < its.length := (List.getElem?_eq_some_iff.1 hit).1
  have hkn : k < len := by rw [← h.1]; exact hkl
  have HW1 := hide (fun (W : World) (hb : Below w.heap.size w W) => h.below hb (Nat.le_refl _))
  obtain ⟨b, off, rfl, hb, hat⟩ := h.at (by omega)
  obtain ⟨sa, sl, sc, c0, c1, c2, hbr⟩ := hat k it hit
  have hsl : it.z.length = sl := hbr.1
  have HAT := hide hat
  have hio := (h.2.1 it (List.mem_of_getElem? hit)).2.2
  rw [hsl] at hio
  unfold maxLen at hio
  have i1 : (0 : Int) ≤ (k : Int) := by omega
  have i2 : (k : Int) < (len : Int) := by omega
  have hz0 : (0 : Int) ≤ (sl : Int) := by omega
  have hlen := h.1
  clear hat hbr h
  obtain ⟨il, ip, iz⟩ := it
  simp only at c0 c1 hsl
  by_cases t1 : il = true ∧ 0 < sl
  · obtain ⟨rfl, hpos⟩ := t1
    have HE : Hid (fltAt its k ⟨true, ip, iz⟩ = 1) := by show _ = _; unfold fltAt; rw [if_pos ⟨rfl, by simpa [hsl] using hpos⟩]
    have hd : decide ((0 : Int) < (sl : Int)) = true := decide_eq_true (by omega)
    go_enter Tryd.func105, Tryd.ntmps105
    go_wp2_with fail
    go_ret
    refine ⟨ret_int (unhide HE).symm, ?_⟩
    exact below_alloc w _
  · have n1 : ¬ (il = true ∧ 0 < iz.length) := by rw [hsl]; exact t1
    have t1' : il = false ∨ (il = true ∧ sl = 0) := by
      cases il
      · exact .inl rfl
      · refine .inr ⟨rfl, ?_⟩
        have : ¬ 0 < sl := fun hh => t1 ⟨rfl, hh⟩
        omega
    clear t1
    by_cases t2 : 300 < sl
    · have HE : Hid (fltAt its k ⟨il, ip, iz⟩ = 2) := by show _ = _; unfold fltAt; rw [if_neg n1, if_pos (by simpa [hsl] using t2)]
      obtain rfl : il = false := by rcases t1' with e | ⟨_, e⟩; exact e; omega
      have hd : decide ((300 : Int) < (sl : Int)) = true := decide_eq_true (by omega)
      clear n1 t1'
      go_enter Tryd.func105, Tryd.ntmps105
      go_wp2_with fail
      go_ret
      exact ⟨ret_int (unhide HE).symm, below_alloc w _⟩
    · have n2 : ¬ 300 < iz.length := by rw [hsl]; exact t2
      have d2 : decide ((300 : Int) < (sl : Int)) = false := decide_eq_false (by omega)
      by_cases k0 : k = 0
      · have dk : (((k : Nat) : Int) == 0) = true := by simp [k0]
        by_cases hp : ip = -1
        · subst hp
          have HE : Hid (fltAt its k ⟨il, -1, iz⟩ = 0) := by show _ = _; unfold fltAt; rw [if_neg n1, if_neg n2, if_pos k0, if_pos rfl]
          clear n1 n2 t2 k0
          rcases t1' with rfl | ⟨rfl, rfl⟩
          all_goals
            go_enter Tryd.func105, Tryd.ntmps105
            go_wp2_with fail
            go_ret
            exact ⟨ret_int (unhide HE).symm, below_alloc w _⟩
        · have HE : Hid (fltAt its k ⟨il, ip, iz⟩ = 3) := by show _ = _; unfold fltAt; rw [if_neg n1, if_neg n2, if_pos k0, if_neg hp]
          have hd : (ip != -1) = true := by simp [hp]
          clear n1 n2 t2 k0
          rcases t1' with rfl | ⟨rfl, rfl⟩
          all_goals
            go_enter Tryd.func105, Tryd.ntmps105
            go_wp2_with fail
            go_ret
            exact ⟨ret_int (unhide HE).symm, below_alloc w _⟩
      · have dk : (((k : Nat) : Int) == 0) = false := by simp; omega
        by_cases t3 : ip < 0 ∨ (k : Int) ≤ ip
        · have HE : Hid (fltAt its k ⟨il, ip, iz⟩ = 3) := by show _ = _; unfold fltAt; rw [if_neg n1, if_neg n2, if_neg k0, if_pos t3]
          clear n1 n2 t2
          by_cases t3a : ip < 0
          · have d3 : decide (ip < 0) = true := decide_eq_true t3a
            rcases t1' with rfl | ⟨rfl, rfl⟩
            all_goals
              go_enter Tryd.func105, Tryd.ntmps105
              go_wp2_with fail
              go_ret
              exact ⟨ret_int (unhide HE).symm, below_alloc w _⟩
          · have d3 : decide (ip < 0) = false := decide_eq_false t3a
            have d4 : decide ((k : Int) ≤ ip) = true := decide_eq_true (by omega)
            rcases t1' with rfl | ⟨rfl, rfl⟩
            all_goals
              go_enter Tryd.func105, Tryd.ntmps105
              go_wp2_with fail
              go_ret
              exact ⟨ret_int (unhide HE).symm, below_alloc w _⟩
        · have d3 : decide (ip < 0) = false := decide_eq_false (by omega)
          have d4 : decide ((k : Int) ≤ ip) = false := decide_eq_false (by omega)
          obtain ⟨q, rfl⟩ : ∃ q : Nat, ip = (q : Int) := ⟨ip.toNat, by omega⟩
          have hqk : q < k := by omega
          obtain ⟨jt, hjt⟩ : ∃ jt, its[q]? = some jt := ⟨_, List.getElem?_eq_getElem (by omega)⟩
          obtain ⟨ja, jl, jc, g0, g1, g2, _⟩ := (unhide HAT) q jt hjt
          have hla : lAt its q = jt.l := by unfold lAt; rw [hjt]
          obtain ⟨xs1, hx1⟩ := hup.way (by omega) (k - 1) (by omega)
          have e1 : ((k - 1 : Nat) : Int) = (k : Int) - 1 := by omega
          rw [e1] at hx1
          have hu1 := hx1.up (by omega)
          have hx2 : IsWay its (k : Int) (k :: upL its (q : Int)) := by
            obtain ⟨xq, hxq⟩ := hup.way (by omega) q hqk
            rw [hxq.up (by omega)]
            exact ⟨rfl, _, hit, by simp, by show (q : Int) < k; omega, hxq⟩
          have hu2 := hx2.up (by omega)
          have j1 : (0 : Int) ≤ (q : Int) := by omega
          have j2 : (q : Int) < (len : Int) := by omega
          have hxl : (k :: upL its (q : Int)).length ≤ 2097152 := by
            have : (upL its (q : Int)).length ≤ its.length + 1 := wayF_len _ _ _
            simp; omega
          generalize k :: upL its (q : Int) = xs2 at hx2 hu2 hxl
          have HF : Hid (fltAt its k ⟨il, (q : Int), iz⟩ = if jt.l = true ∧ q ∈ xs1 then (if 5 < xs2.length then 2 else 0) else 1) := by
            show _ = _
            unfold fltAt
            rw [if_neg n1, if_neg n2, if_neg k0, if_neg t3, Int.toNat_natCast, hla, hu1, hu2]
          have HX1 := hide hx1
          have HX2 := hide hx2
          have HUP := hide (fun (W : World) (hb : Below w.heap.size w W) => isUpFrom_any (some ⟨b, off, none⟩) len cap its ((k : Int) - 1) q xs1 W ((unhide HW1) W hb) hl hx1)
          have HDP := hide (fun (W : World) (hb : Below w.heap.size w W) => deepOf_any (some ⟨b, off, none⟩) len cap its (k : Int) xs2 W ((unhide HW1) W hb) hl hx2 hxl)
          generalize jt.l = jb at g0 HF
          clear n1 n2 t2 t3 hu1 hu2 hx1 hx2 hla e1 g1 g2 HX1 HX2 hjt
          cases jb
          · have HE : Hid (fltAt its k ⟨il, (q : Int), iz⟩ = 1) := by show _ = _; rw [unhide HF]; simp
            clear HF
            rcases t1' with rfl | ⟨rfl, rfl⟩
            all_goals
              go_enter Tryd.func105, Tryd.ntmps105
              go_wp2_with fail
              go_ret
              exact ⟨ret_int (unhide HE).symm, below_alloc w _⟩
          · by_cases hm : q ∈ xs1
            · have HM := hide hm
              have hdm : decide (q ∈ xs1) = true := decide_eq_true hm
              rw [hdm] at HUP
              by_cases h5 : 5 < xs2.length
              · have HE : Hid (fltAt its k ⟨il, (q : Int), iz⟩ = 2) := by show _ = _; rw [unhide HF]; simp [hm, h5]
                have d5 : decide ((5 : Int) < ((xs2.length : Nat) : Int)) = true := decide_eq_true (by omega)
                clear HF hdm hm
                rcases t1' with rfl | ⟨rfl, rfl⟩
                all_goals
                  go_enter Tryd.func105, Tryd.ntmps105
                  go_wp2_with fail
                  refine ((unhide HUP) _ (below_alloc w _)).mono ?_
                  rintro e w1 ⟨rfl, b1⟩
                  have B1 := (below_alloc w _).trans (b1.mono (below_alloc w _).size)
                  go_wp2_with fail
                  refine ((unhide HDP) _ B1).mono ?_
                  rintro e w2 ⟨rfl, b2⟩
                  have B2 := B1.trans (b2.mono B1.size)
                  go_wp2_with fail
                  go_ret
                  exact ⟨ret_int (unhide HE).symm, B2⟩
              · have HE : Hid (fltAt its k ⟨il, (q : Int), iz⟩ = 0) := by show _ = _; rw [unhide HF]; simp [hm, h5]
                have d5 : decide ((5 : Int) < ((xs2.length : Nat) : Int)) = false := decide_eq_false (by omega)
                clear HF hdm hm
                rcases t1' with rfl | ⟨rfl, rfl⟩
                all_goals
                  go_enter Tryd.func105, Tryd.ntmps105
                  go_wp2_with fail
                  refine ((unhide HUP) _ (below_alloc w _)).mono ?_
                  rintro e w1 ⟨rfl, b1⟩
                  have B1 := (below_alloc w _).trans (b1.mono (below_alloc w _).size)
                  go_wp2_with fail
                  refine ((unhide HDP) _ B1).mono ?_
                  rintro e w2 ⟨rfl, b2⟩
                  have B2 := B1.trans (b2.mono B1.size)
                  go_wp2_with fail
                  go_ret
                  exact ⟨ret_int (unhide HE).symm, B2⟩
            · have hdm : decide (q ∈ xs1) = false := decide_eq_false hm
              rw [hdm] at HUP
              have HE : Hid (fltAt its k ⟨il, (q : Int), iz⟩ = 1) := by show _ = _; rw [unhide HF]; simp [hm]
              clear HF hdm hm
              rcases t1' with rfl | ⟨rfl, rfl⟩
              all_goals
                go_enter Tryd.func105, Tryd.ntmps105
                go_wp2_with fail
                refine ((unhide HUP) _ (below_alloc w _)).mono ?_
                rintro e w1 ⟨rfl, b1⟩
                have B1 := (below_alloc w _).trans (b1.mono (below_alloc w _).size)
                go_wp2_with fail
                go_ret
                exact ⟨ret_int (unhide HE).symm, B1⟩

end Go.Proofs.YtbncoiljklagkaaDoor

/- What is proved here: what the program's ItemsFault answers: the first fault of items. -/
namespace Go.Proofs.YtbncoiljklagkaaDoor
open Go.RowKit
set_option linter.unusedVariables false

set_option maxHeartbeats 2000000 in
theorem implFault_any (a : Option Addr) (len cap : Nat) (its : List It) (w : World) (h : ItRow w a len its) (hl : len ≤ 1048576) :
    Calls Tryd.prog 91 #[.slice a len cap] w fun e w' => e = .returned (.int .i64 (itemsFlt its)) ∧ Below w.heap.size w w' := by
  have hil := h.1
  by_cases h1 : len < 1
  · have HE : Hid (itemsFlt its = 2) := by show _ = _; unfold itemsFlt; rw [if_pos (.inl (by rw [hil]; exact h1))]
    have hd : decide ((len : Int) < 1) = true := decide_eq_true (by omega)
    clear h hil
    go_enter Tryd.func91, Tryd.ntmps91
    go_wp2_with fail
    go_ret
    exact ⟨ret_int (unhide HE).symm, Below.refl _ _⟩
  · have d1 : decide ((len : Int) < 1) = false := decide_eq_false (by omega)
    by_cases h2 : 200 < len
    · have HE : Hid (itemsFlt its = 2) := by show _ = _; unfold itemsFlt; rw [if_pos (.inr (by rw [hil]; exact h2))]
      have hd : decide ((200 : Int) < (len : Int)) = true := decide_eq_true (by omega)
      clear h hil
      go_enter Tryd.func91, Tryd.ntmps91
      go_wp2_with fail
      go_ret
      exact ⟨ret_int (unhide HE).symm, Below.refl _ _⟩
    · have d2 : decide ((200 : Int) < (len : Int)) = false := decide_eq_false (by omega)
      have HE : Hid (itemsFlt its = fltFrom its 0 its) := by show _ = _; unfold itemsFlt; rw [if_neg (by omega)]
      have HW := hide (fun (W : World) (hb : Below w.heap.size w W) => h.below hb (Nat.le_refl _))
      have HL := hide hil
      clear h hil
      go_enter Tryd.func91, Tryd.ntmps91
      go_wp2_with fail
      go_loopw [15] (fun i wr => ∃ k : Nat, k ≤ len ∧ i = .int .i64 k ∧ UpOk its k ∧ fltFrom its 0 its = fltFrom its k (its.drop k) ∧ Below w.heap.size w wr) (fun i _ => len - (intOf i).toNat)
      case atStart => exact ⟨0, Nat.zero_le _, rfl, fun j it hj => absurd hj (Nat.not_lt_zero _), by simp, Below.refl _ _⟩
      case round =>
        obtain ⟨k, hk, rfl, hup, hpre, hbr⟩ := hrel
        by_cases hlt : k < len
        · obtain ⟨it, hit⟩ : ∃ it, its[k]? = some it := ⟨_, List.getElem?_eq_getElem (by rw [unhide HL]; exact hlt)⟩
          have hst := fltFrom_step its k it hit
          rw [← hpre] at hst
          have HF := hide (itemFault_any a len cap its k it wr ((unhide HW) wr hbr) hl hit hup)
          have HN : Hid (fltAt its k it = 0 → UpOk its (k + 1)) := fun e => upOk_step hup hit (fltAt_up e).1 (fltAt_up e).2
          have HS := hide hst
          have HB := hide hbr
          generalize fltAt its k it = c at HF HN HS
          have i2 : decide ((k : Int) < (len : Int)) = true := decide_eq_true (by omega)
          clear hst hpre hbr hup hit
          by_cases hc : c = 0
          · have HN1 := hide ((unhide HN) hc)
            have HS1 : Hid (fltFrom its 0 its = fltFrom its (k + 1) (its.drop (k + 1))) := by show _ = _; rw [unhide HS, if_pos hc]
            clear HN HS
            subst hc
            go_wp2_with fail
            refine (unhide HF).mono ?_
            rintro e w1 ⟨rfl, b1⟩
            go_wp2_with fail
            go_roundw
            case rel => exact ⟨k + 1, by omega, by go_num, unhide HN1, unhide HS1, (unhide HB).trans (b1.mono (unhide HB).size)⟩
            case measure => simp [intOf]; omega
          · have hne : (c != 0) = true := by simp [hc]
            go_wp2_with fail
            refine (unhide HF).mono ?_
            rintro e w1 ⟨rfl, b1⟩
            go_wp2_with fail
            go_ret
            exact ⟨ret_int (by rw [unhide HE, unhide HS, if_neg hc]), (unhide HB).trans (b1.mono (unhide HB).size)⟩
        · obtain rfl : k = len := by omega
          have e := fltFrom_end its k (by rw [unhide HL]; exact Nat.le_refl _)
          rw [e] at hpre
          have HP := hide hpre
          have i2 : decide ((k : Int) < (k : Int)) = false := decide_eq_false (by omega)
          clear e hpre hup
          go_wp2_with fail
          go_ret
          exact ⟨ret_int (by rw [unhide HE, unhide HP]), hbr⟩

end Go.Proofs.YtbncoiljklagkaaDoor

/- What is proved here: what is known behind the block of an answer that was laid first; it holds for every program. -/
namespace Go.Proofs.YtbncoiljklagkaaDoor
open Go.RowKit
set_option linter.unusedVariables false

/-- What is known behind the block of the answer. -/
theorem behind_res {w w2 : World} {T : TypeId} (hbel : Below (w.heap.size + 1) (w.alloc (.cells #[.int .i64 0, .slice none 0 0] T)) w2) :
    w2.cell? ⟨w.heap.size, 0, none⟩ = some (.int .i64 0) ∧ w2.cell? ⟨w.heap.size, 1, none⟩ = some (.slice none 0 0) ∧ w2.frozen? ⟨w.heap.size, 0, none⟩ = false ∧ w2.frozen? ⟨w.heap.size, 1, none⟩ = false ∧ Below w.heap.size w w2 ∧ w.heap.size + 1 ≤ w2.heap.size :=
  ⟨(hbel.cell (by simp)).trans (by simp), (hbel.cell (by simp)).trans (by simp), (hbel.frozen (by simp)).trans (by simp), (hbel.frozen (by simp)).trans (by simp), (below_alloc w _).trans (hbel.mono (by omega)), by have := hbel.size; simp at this; omega⟩

end Go.Proofs.YtbncoiljklagkaaDoor

/- What is proved here: what the program's EncodeItems answers: the code and the bytes, in new memory. -/
namespace Go.Proofs.YtbncoiljklagkaaDoor
open Go.RowKit
set_option linter.unusedVariables false
set_option maxRecDepth 100000

theorem hdI_range (it : It) (n : Nat) : ∀ x ∈ hdI it n, 0 ≤ x ∧ x ≤ 255 := by
  unfold hdI; split
  · intro x hx; simp at hx
  · exact hdBytes_range _ _

set_option maxHeartbeats 8000000 in
theorem implEnc_any (a : Option Addr) (len cap : Nat) (its : List It) (w : World) (h : ItRowN w a len its) (hl : len ≤ 1048576) :
    Calls Tryd.prog 66 #[.slice a len cap] w fun e w' => ∃ a' cap', e = .returned (.agg #[.int .i64 (enCode its), .slice a' (enBytes its).length cap']) ∧
      w'.ownsRow w.heap.size 5 1 (.slice a' (enBytes its).length cap') (enBytes its).length ((enBytes its).map (Value.int .u8)) ∧ Below w.heap.size w w' := by
  obtain ⟨i0, hi, hz0, hz1, hz2⟩ := info_parts info5
  have HF : Hid (∀ W g, W.heap.size = g → Below w.heap.size w W → Calls Tryd.prog 91 #[.slice a len cap] W fun e w' => e = .returned (.int .i64 (itemsFlt its)) ∧ Below g W w') := fun W g hg hb => by
    subst hg; exact implFault_any a len cap its W (h.1.below hb (Nat.le_refl _)) hl
  by_cases hf : itemsFlt its = 0
  · have N := noFault_of hf
    rw [hf] at HF
    have hlen := h.1.1
    have hl200 : len ≤ 200 := by rw [← hlen]; exact N.few
    have hl0 : 0 < len := by rw [← hlen]; exact N.some
    have HHD := hide (fun (W : World) (hb : Below w.heap.size w W) => headsOf_any a len cap its N W (h.below hb (Nat.le_refl _)))
    have htie := enc_tie N
    have hdl : (dFrom hdI its 0).length ≤ 61600 := by
      have := dN_le hdI hdI_length N.small its.length 0
      have h5 := N.few
      have : (dFrom hdI its 0).length ≤ 308 * its.length := this
      omega
    have hbytes := h.1.bytes
    obtain ⟨b, off, rfl, hb, hat⟩ := h.at hl0
    have HAT := hide hat
    have HBY := hide hbytes
    have HL := hide hlen
    have HT := hide htie
    clear hat h hbytes hlen htie
    go_enter Tryd.func66, Tryd.ntmps66
    go_wp2_with fail
    refine ((unhide HF) _ (w.heap.size + 1) (by simp) (below_alloc w _)).mono ?_
    rintro e w1 ⟨rfl, b1⟩
    have B1 : Below w.heap.size w w1 := (behind_res b1).2.2.2.2.1
    go_wp2_with fail
    refine ((unhide HHD) _ B1).mono ?_
    rintro e w3 ⟨rfl, hh3, b3⟩
    have s1 := (behind_res b1).2.2.2.2.2
    have B3 : Below (w.heap.size + 1) (w.alloc (.cells #[.int .i64 0, .slice none 0 0] 28)) w3 := b1.trans (b3.mono s1)
    have s3 := (behind_res B3).2.2.2.2.2
    have gh3 : w1.heap.size < w3.heap.size := by obtain ⟨hv, q1, _⟩ := hh3; exact q1.lt
    have HH3 := hide hh3
    have HB3 := hide B3
    generalize w1.heap.size = gh at HH3 gh3
    clear hh3 b3 b1 B1 B3 s1
    go_wp2_with fail
    go_loopw [5, 18] (fun s i wr => ∃ (k m : Nat) (L : List Int) (ab : Option Addr) (cb : Nat), k ≤ len ∧ i = .int .i64 k ∧ L.length = m ∧ L ++ dFrom hdI its k = dFrom hdI its 0 ∧ s = .slice ab m cb ∧ wr.ownsRow w3.heap.size 5 1 (.slice ab m cb) m (L.map (Value.int .u8)) ∧ Below w3.heap.size w3 wr) (fun _ i _ => len - (intOf i).toNat)
    case atStart => exact ⟨0, 0, [], none, 0, Nat.zero_le _, rfl, rfl, rfl, rfl, World.ownsRow_nil _ _ _ _, Below.refl _ _⟩
    case round =>
      obtain ⟨k, m, L, ab, cb, hk, rfl, hLm, hsplit, rfl, hown, hbr⟩ := hrel
      have BW : Below (w.heap.size + 1) (w.alloc (.cells #[.int .i64 0, .slice none 0 0] 28)) wr := (unhide HB3).trans (hbr.mono s3)
      obtain ⟨r0, r1, g0, g1, hbw, hsz⟩ := behind_res BW
      by_cases hlt : k < len
      · clear r0 r1 g0 g1
        obtain ⟨it, hit⟩ : ∃ it, its[k]? = some it := ⟨_, List.getElem?_eq_getElem (by rw [unhide HL]; exact hlt)⟩
        obtain ⟨sa, sc, c0, c1, c2, hrow, hnil⟩ := (unhide HAT) k it hit
        have c0r := (hbw.cell (p := ⟨b, off + k * 3, none⟩) hb).trans c0
        have c1r := (hbw.cell (p := ⟨b, off + k * 3 + 1, none⟩) hb).trans c1
        have c2r := (hbw.cell (p := ⟨b, off + k * 3 + 2, none⟩) hb).trans c2
        obtain ⟨hv, q1, q2, q3⟩ := (unhide HH3).below hbr (Nat.le_refl _)
        obtain ⟨ah, ch, p1, p2⟩ := q3 k it (Nat.zero_le _) hit
        have hd0 : wr.cell? ⟨gh, k, none⟩ = some (.slice ah (hdAt its k it).length ch) := by rw [q1.cell]; exact p1
        have hst := dFrom_step hdI hit
        have hhr := BRow.own2 p2 (hdI_range _ _)
        have hhc := own_cap p2
        have hh8 : (hdAt its k it).length ≤ 8 := hdI_length _ _
        have hz3 := N.small it (List.mem_of_getElem? hit)
        have HHR := hide (fun (W : World) (hb' : Below wr.heap.size wr W) => hhr.below hb' (Nat.le_refl _))
        have HZR := hide (fun (W : World) (hb' : Below w.heap.size w W) => hrow.below hb' (Nat.le_refl _))
        have hmb : m ≤ 61600 := by
          have : (L ++ dFrom hdI its k).length ≤ 61600 := by rw [hsplit]; exact hdl
          rw [List.length_append, hLm] at this
          omega
        have HNX : Hid (L ++ hdAt its k it ++ it.z ++ dFrom hdI its (k + 1) = dFrom hdI its 0) := by
          show _ = _
          rw [← hsplit, hst]
          simp [hdAt, List.append_assoc]
        have hzl : it.z.length = it.z.length := rfl
        generalize hdAt its k it = HK at hd0 hh8 HHR HNX p2 hhc
        obtain ⟨zl, hzl⟩ : ∃ zl, zl = it.z.length := ⟨_, rfl⟩
        rw [← hzl] at c2r hz3 HZR
        generalize it.z = zz at HZR HNX hzl
        generalize it.l = il at c0r
        have HZL := hide hzl
        have HLM := hide hLm
        have i1 : (0 : Int) ≤ (k : Int) := by omega
        have i2 : (k : Int) < (len : Int) := by omega
        have i3 : decide ((k : Int) < (len : Int)) = true := decide_eq_true i2
        have gl : gh < wr.heap.size := q1.lt
        have hd0' : ∀ o, (wr.alloc o).cell? ⟨gh, k, none⟩ = some (.slice ah HK.length ch) := fun o => ((below_alloc wr o).cell (p := ⟨gh, k, none⟩) gl).trans hd0
        have HOA := hide (fun o => hown.alloc o)
        have HLT := hide (fun g e => hown.lt g e)
        have hwr3 := hbr.size
        have HBR := hide hbr
        clear hst hhr hzl hLm hsplit hown hbr BW hbw q1 q2 q3 p1 p2 c0 c1 c2 hrow hit hd0
        have HWA : Hid (∀ o, Below wr.heap.size wr (wr.alloc o)) := fun o => below_alloc wr o
        go_wp2_with (at_builtin; refine wpList_append_brow _ rfl _ _ 22 rfl w3.heap.size i0 Tryd.underlying22 hi hz0 hz1 hz2 _ m L rfl ((unhide HOA) _) ah HK.length ch HK rfl ((unhide HHR) _ ((unhide HWA) _)) hhc (by omega) (by simp; omega) ?_)
        intro a4 c4 w4 o4 g4
        have K4 : Below w3.heap.size w3 w4 := ((unhide HBR).alloc hwr3 _).grown g4 (by simp; omega) (fun g e => ((unhide HLT) g e).1)
        have BW4 : Below w.heap.size w w4 := (behind_res ((unhide HB3).trans (K4.mono s3))).2.2.2.2.1
        have hne : ∀ g, (Value.slice ab m cb).ownBlock = some g → g < wr.heap.size := fun g e => ((unhide HLT) g e).2
        have ci : w4.cell? ⟨wr.heap.size, 2, none⟩ = some (.slice sa zl sc) := g4.cell (a := ⟨wr.heap.size, 2, none⟩) (by simp) (fun e => by have := hne _ e.symm; exact absurd this (Nat.lt_irrefl _))
        have hzr := (unhide HZR) w4 BW4
        have s34 := K4.size
        have HLT4 := hide (fun g e => (o4.lt g e).1)
        rw [← List.map_append] at o4
        have HO4 := hide o4
        have HK4 := hide K4
        clear o4 g4 K4 hd0' c0r c1r c2r BW4
        go_wp2_with (at_builtin; refine wpList_append_brow _ rfl _ _ 22 rfl w3.heap.size i0 Tryd.underlying22 hi hz0 hz1 hz2 _ (m + HK.length) (L ++ HK) rfl (unhide HO4) sa zl sc zz rfl hzr hnil (by omega) s34 ?_)
        intro a5 c5 w5 o5 g5
        have K5 : Below w3.heap.size w3 w5 := (unhide HK4).grown g5 s34 (fun g e => (unhide HLT4) g e)
        rw [← List.map_append] at o5
        have HO5 := hide o5
        have HK5 := hide K5
        clear o5 g5 K5 ci hzr
        go_wp2_with fail
        go_roundw
        case rel => exact ⟨k + 1, m + HK.length + zl, L ++ HK ++ zz, a5, c5, by omega, by go_num, by rw [List.length_append, List.length_append, unhide HLM, ← unhide HZL], unhide HNX, rfl, by simpa [List.append_assoc] using unhide HO5, unhide HK5⟩
        case measure => simp [intOf]; omega
      · obtain rfl : k = len := by omega
        have hde : dFrom hdI its k = [] := dFrom_end hdI its k (by rw [unhide HL]; exact Nat.le_refl _)
        rw [hde, List.append_nil] at hsplit
        have i3 : decide ((k : Int) < (k : Int)) = false := decide_eq_false (by omega)
        by_cases h12 : 1200 < (enc hdS its 0).length
        · have hgt := (unhide HT).1 h12
          rw [← hsplit, hLm] at hgt
          have HE1 : Hid (enCode its = 2) := by show _ = _; unfold enCode; rw [if_pos hf, if_pos h12]
          have HE2 : Hid (enBytes its = []) := by show _ = _; unfold enBytes; rw [if_neg (by omega)]
          have d1 : decide ((1200 : Int) < (m : Int)) = true := decide_eq_true (by omega)
          have HB := hide hbw
          clear hsplit hLm hown hbr BW hde h12 hbw
          go_wp2_with fail
          refine bodyPost_ret (v := .agg #[.int .i64 2, .slice none 0 0]) (by simp [results, Tryd.results66, go_sem, r0, r1]) rfl ⟨none, 0, ?_, ?_, ((unhide HB).setCell (by simp) _).setCell (by simp) _⟩
          · rw [unhide HE1, unhide HE2]; rfl
          · rw [unhide HE2]; exact World.ownsRow_nil _ _ _ _
        · have heq := (unhide HT).2 (by omega)
          rw [← hsplit] at heq
          have hm12 : m ≤ 1200 := by rw [← hLm, heq]; omega
          have HE1 : Hid (enCode its = 0) := by show _ = _; unfold enCode; rw [if_pos hf, if_neg h12]
          have HE2 : Hid (enBytes its = L) := by show _ = _; unfold enBytes; rw [if_pos ⟨hf, by omega⟩, heq]
          have d1 : decide ((1200 : Int) < (m : Int)) = false := decide_eq_false (by omega)
          have HB := hide hbw
          have HO := hide hown
          have HLM := hide hLm
          clear hsplit hLm hown hbr BW hde h12 hbw heq
          go_wp2_with fail
          refine bodyPost_ret (v := .agg #[.int .i64 0, .slice ab m cb]) (by simp [results, Tryd.results66, go_sem, r0, r1]) rfl ⟨ab, cb, ?_, ?_, ((unhide HB).setCell (by simp) _).setCell (by simp) _⟩
          · rw [unhide HE1, unhide HE2, unhide HLM]
          · rw [unhide HE2, unhide HLM]
            exact ownsRow_base (ownsRow_setCell_below (ownsRow_setCell_below (unhide HO) (by simp; omega) _) (by simp; omega) _) (by omega)
  · have e1 : enCode its = itemsFlt its := by unfold enCode; rw [if_neg hf]
    have e2 : enBytes its = [] := by unfold enBytes; rw [if_neg (fun hh => hf hh.1)]
    rw [e1, e2]
    have hne : (itemsFlt its != 0) = true := by simp [hf]
    generalize itemsFlt its = c at HF hne
    clear e1 e2 h hf
    go_enter Tryd.func66, Tryd.ntmps66
    go_wp2_with fail
    refine ((unhide HF) _ (w.heap.size + 1) (by simp) (below_alloc w _)).mono ?_
    rintro e w1 ⟨rfl, b1⟩
    obtain ⟨r0, r1, g0, g1, hbw, hsz⟩ := behind_res b1
    clear b1
    go_wp2_with fail
    exact bodyPost_ret (v := .agg #[.int .i64 c, .slice none 0 0]) (by simp [results, Tryd.results66, go_sem, r0, r1]) rfl ⟨none, 0, rfl, World.ownsRow_nil _ _ _ _, (hbw.setCell (by simp) _).setCell (by simp) _⟩

end Go.Proofs.YtbncoiljklagkaaDoor

/- What is proved here: what the program's SignersFault answers: the first fault of a list of signers. -/
namespace Go.Proofs.YtbncoiljklagkaaDoor
open Go.RowKit
set_option linter.unusedVariables false

theorem isAddr_any (a : Option Addr) (n cap : Nat) (w : World) : Calls Tryd.prog 45 #[.slice a n cap] w fun e w' => e = .returned (.bool (((n : Nat) : Int) == 4)) ∧ w' = w := by
  go_enter Tryd.func45, Tryd.ntmps45
  go_wp2_with fail
  go_ret
  exact ⟨rfl, rfl⟩

set_option maxHeartbeats 2000000 in
theorem implSigners_any (a : Option Addr) (len cap : Nat) (zss : List (List Int)) (w : World) (h : BsRow w a len zss) (hl : len ≤ 1048576) :
    Calls Tryd.prog 52 #[.slice a len cap] w fun e w' => e = .returned (.int .i64 (sgFlt zss)) ∧ w' = w := by
  have hil := h.1
  by_cases h2 : 7 < len
  · have HE : Hid (sgFlt zss = 2) := by show _ = _; unfold sgFlt; rw [if_pos (by rw [hil]; exact h2)]
    have hd : decide ((7 : Int) < (len : Int)) = true := decide_eq_true (by omega)
    clear h hil
    go_enter Tryd.func52, Tryd.ntmps52
    go_wp2_with fail
    go_ret
    exact ⟨ret_int (unhide HE).symm, rfl⟩
  · have d2 : decide ((7 : Int) < (len : Int)) = false := decide_eq_false (by omega)
    have HE : Hid (sgFlt zss = sgFrom zss 0 zss) := by show _ = _; unfold sgFlt; rw [if_neg (by omega)]
    rcases Nat.eq_zero_or_pos len with h0 | hp
    · subst h0
      have hn : zss = [] := List.length_eq_zero_iff.1 hil
      subst hn
      clear h
      go_enter Tryd.func52, Tryd.ntmps52
      go_wp2_with fail
      refine wp_loop_rounds 1 ?_
      rw [rounds_succ]
      go_wp2_with fail
      go_ret
      exact ⟨ret_int (by rw [unhide HE]; rfl), rfl⟩
    · obtain ⟨b, off, rfl, hb, hc⟩ := h.at hp
      have HC := hide hc
      have HL := hide hil
      clear h hc hil
      go_enter Tryd.func52, Tryd.ntmps52
      go_wp2_with fail
      go_loop [10] (fun i => ∃ k : Nat, k ≤ len ∧ i = .int .i64 k ∧ sgFrom zss 0 zss = sgFrom zss k (zss.drop k)) (fun i => len - (intOf i).toNat)
      case atStart => exact ⟨0, Nat.zero_le _, rfl, by simp⟩
      case round =>
        obtain ⟨k, hk, rfl, hpre⟩ := hrel
        by_cases hlt : k < len
        · obtain ⟨z, hit⟩ : ∃ z, zss[k]? = some z := ⟨_, List.getElem?_eq_getElem (by rw [unhide HL]; exact hlt)⟩
          have hst := sgFrom_step zss k z hit
          rw [← hpre] at hst
          obtain ⟨s1, n1, d1, p0, r1⟩ := (unhide HC) k z hit
          have hzl : z.length = n1 := r1.1
          have HS := hide hst
          have i1 : (0 : Int) ≤ (k : Int) := by omega
          have i2 : (k : Int) < (len : Int) := by omega
          have HI := hide (isAddr_any s1 n1 d1 w)
          by_cases h4 : n1 = 4
          · have d4 : (((n1 : Nat) : Int) == 4) = true := by simp [h4]
            rw [d4] at HI
            by_cases k0 : k = 0
            · have e : sgBad zss k z = false := by unfold sgBad; simp [hzl, h4, k0]
              rw [e, if_neg (by simp)] at HS
              have dk : decide ((0 : Int) < (k : Int)) = false := decide_eq_false (by omega)
              have dk' : decide (0 < k) = false := decide_eq_false (by omega)
              clear r1 hst hpre hit hzl e k0 h4
              go_wp2_with fail
              refine (unhide HI).mono ?_
              rintro e w1 ⟨rfl, rfl⟩
              go_wp2_with fail
              go_round
              case rel => exact ⟨k + 1, by omega, by go_num, unhide HS⟩
              case measure => simp [intOf]; omega
            · obtain ⟨y, hiy⟩ : ∃ y, zss[k - 1]? = some y := ⟨_, List.getElem?_eq_getElem (by rw [unhide HL]; omega)⟩
              obtain ⟨s2, n2, d2', q0, r2⟩ := (unhide HC) (k - 1) y hiy
              have hgd : zss.getD (k - 1) [] = y := by rw [List.getD_eq_getElem?_getD, hiy]; rfl
              have e : sgBad zss k z = !aheadB y z := by unfold sgBad; rw [hgd, hzl, h4]; simp; omega
              rw [e] at HS
              have dk : decide ((0 : Int) < (k : Int)) = true := decide_eq_true (by omega)
              have dk' : decide (0 < k) = true := decide_eq_true (by omega)
              have ek : ((k : Int) - 1).toNat = k - 1 := by omega
              have j1 : (0 : Int) ≤ (k : Int) - 1 := by omega
              have j2 : (k : Int) - 1 < (len : Int) := by omega
              have hwr : IntKind.i64.wrap ((k : Int) - 1) = (k : Int) - 1 := by rw [IntKind.wrap_i64]; omega
              have HA := hide (implAhead_any s2 s1 n2 d2' n1 d1 y z w r2 r1)
              have q1 : w.cell? ⟨b, off + ((k : Int) - 1).toNat, none⟩ = some (.slice s2 n2 d2') := by rw [ek]; exact q0
              clear r1 r2 hst hpre hit hiy hzl hgd e k0 h4 ek
              generalize aheadB y z = sb at HA HS
              cases sb
              · go_wp2_with fail
                refine (unhide HI).mono ?_
                rintro e w1 ⟨rfl, rfl⟩
                go_wp2_with fail
                refine (unhide HA).mono ?_
                rintro e w1 ⟨rfl, rfl⟩
                go_wp2_with fail
                go_ret
                exact ⟨ret_int (by rw [unhide HE, unhide HS]; rfl), rfl⟩
              · go_wp2_with fail
                refine (unhide HI).mono ?_
                rintro e w1 ⟨rfl, rfl⟩
                go_wp2_with fail
                refine (unhide HA).mono ?_
                rintro e w1 ⟨rfl, rfl⟩
                go_wp2_with fail
                go_round
                case rel => exact ⟨k + 1, by omega, by go_num, by rw [unhide HS]; rfl⟩
                case measure => simp [intOf]; omega
          · have d4 : (((n1 : Nat) : Int) == 4) = false := by rw [beq_eq_false_iff_ne]; omega
            rw [d4] at HI
            have e : sgBad zss k z = true := by unfold sgBad; simp [hzl, h4]
            rw [e, if_pos rfl] at HS
            clear r1 hst hpre hit hzl e h4
            go_wp2_with fail
            refine (unhide HI).mono ?_
            rintro e w1 ⟨rfl, rfl⟩
            go_wp2_with fail
            go_ret
            exact ⟨ret_int (by rw [unhide HE, unhide HS]), rfl⟩
        · obtain rfl : k = len := by omega
          have e := sgFrom_end zss k (by rw [unhide HL]; exact Nat.le_refl _)
          rw [e] at hpre
          have HP := hide hpre
          clear e hpre
          go_wp2_with fail
          go_ret
          exact ⟨ret_int (by rw [unhide HE, unhide HP]), rfl⟩

end Go.Proofs.YtbncoiljklagkaaDoor

/- What is proved here: what the program's HeaderFault answers, and what it calls: the fault of a header. -/
namespace Go.Proofs.YtbncoiljklagkaaDoor
open Go.RowKit
set_option linter.unusedVariables false

theorem isHash_any (a : Option Addr) (n cap : Nat) (w : World) : Calls Tryd.prog 46 #[.slice a n cap] w fun e w' => e = .returned (.bool (((n : Nat) : Int) == 32)) ∧ w' = w := by
  go_enter Tryd.func46, Tryd.ntmps46
  go_wp2_with fail
  go_ret
  exact ⟨rfl, rfl⟩

theorem isWithin_any (v lo hi : Int) (w : World) : Calls Tryd.prog 87 #[.int .i64 v, .int .i64 lo, .int .i64 hi] w fun e w' => e = .returned (.bool (within v lo hi)) ∧ w' = w := by
  unfold within
  by_cases h0 : lo ≤ v
  · have e0 : decide (lo ≤ v) = true := decide_eq_true h0
    by_cases h1 : v ≤ hi
    · have e1 : decide (v ≤ hi) = true := decide_eq_true h1
      have e : decide (lo ≤ v ∧ v ≤ hi) = true := decide_eq_true ⟨h0, h1⟩
      rw [e]
      clear e
      go_enter Tryd.func87, Tryd.ntmps87
      go_wp2_with fail
      go_ret
      exact ⟨rfl, rfl⟩
    · have e1 : decide (v ≤ hi) = false := decide_eq_false h1
      have e : decide (lo ≤ v ∧ v ≤ hi) = false := decide_eq_false (fun h => h1 h.2)
      rw [e]
      clear e
      go_enter Tryd.func87, Tryd.ntmps87
      go_wp2_with fail
      go_ret
      exact ⟨rfl, rfl⟩
  · have e0 : decide (lo ≤ v) = false := decide_eq_false h0
    have e : decide (lo ≤ v ∧ v ≤ hi) = false := decide_eq_false (fun h => h0 h.1)
    rw [e]
    clear e
    go_enter Tryd.func87, Tryd.ntmps87
    go_wp2_with fail
    go_ret
    exact ⟨rfl, rfl⟩

theorem isWithin_to (v lo hi : Int) (c : Bool) (w : World) (e : within v lo hi = c) : Calls Tryd.prog 87 #[.int .i64 v, .int .i64 lo, .int .i64 hi] w fun e w' => e = .returned (.bool c) ∧ w' = w := by
  subst e; exact isWithin_any v lo hi w

theorem isNumber_to (v : Int) (c : Bool) (w : World) (e : within v 0 1099511627776 = c) : Calls Tryd.prog 86 #[.int .i64 v] w fun e w' => e = .returned (.bool c) ∧ w' = w := by
  have HI := hide (isWithin_to v 0 1099511627776 c w e)
  clear e
  go_enter Tryd.func86, Tryd.ntmps86
  go_wp2_with fail
  refine (unhide HI).mono ?_
  rintro e w' ⟨rfl, rfl⟩
  go_wp2_with fail
  go_ret
  exact ⟨rfl, rfl⟩

theorem hasNonce_to (x : HS) (h : Hd) (c : Bool) (w : World) (e : within h.n5 0 2 = c) : Calls Tryd.prog 88 #[.agg #[.slice x.t.a x.t.n x.t.c, .int .i64 h.n5, .slice x.s.a x.s.n x.s.c]] w fun e w' => e = .returned (.bool c) ∧ Below w.heap.size w w' := by
  have HI := hide (fun W => isWithin_to h.n5 0 2 c W e)
  have HB := hide (below_alloc w (.cells #[.slice x.t.a x.t.n x.t.c, .int .i64 h.n5, .slice x.s.a x.s.n x.s.c] 64))
  clear e
  go_enter Tryd.func88, Tryd.ntmps88
  go_wp2_with fail
  refine ((unhide HI) _).mono ?_
  rintro e w' ⟨rfl, rfl⟩
  go_wp2_with fail
  go_ret
  exact ⟨rfl, unhide HB⟩

theorem hasAim_to (x : HS) (h : Hd) (b2 b3 : Bool) (w : World) (e2 : (((x.t.n : Nat) : Int) != 0) = b2) (e3 : (((x.t.n : Nat) : Int) != 4) = b3) :
    Calls Tryd.prog 85 #[.agg #[.slice x.t.a x.t.n x.t.c, .int .i64 h.n5, .slice x.s.a x.s.n x.s.c]] w fun e w' => e = .returned (.bool (!(b2 && b3))) ∧ Below w.heap.size w w' := by
  have HI := hide (fun W => isAddr_any x.t.a x.t.n x.t.c W)
  have HB := hide (below_alloc w (.cells #[.slice x.t.a x.t.n x.t.c, .int .i64 h.n5, .slice x.s.a x.s.n x.s.c] 64))
  have f2 : (((x.t.n : Nat) : Int) == 0) = !b2 := by rw [← e2]; simp [bne]
  have f3 : (((x.t.n : Nat) : Int) == 4) = !b3 := by rw [← e3]; simp [bne]
  simp only [f3] at HI
  clear e2 e3 f3
  cases b2
  · have f2' : (((x.t.n : Nat) : Int) == 0) = true := f2
    clear f2
    go_enter Tryd.func85, Tryd.ntmps85
    go_wp2_with fail
    go_ret
    exact ⟨rfl, unhide HB⟩
  · have f2' : (((x.t.n : Nat) : Int) == 0) = false := f2
    clear f2
    go_enter Tryd.func85, Tryd.ntmps85
    go_wp2_with fail
    refine ((unhide HI) _).mono ?_
    rintro e w' ⟨rfl, rfl⟩
    go_wp2_with fail
    go_ret
    exact ⟨ret_bool (by cases b3 <;> rfl), unhide HB⟩

theorem votesFault_any (x : HS) (h : Hd) (w : World) (o : BsRow w x.s.a x.s.n h.s) (hl : x.s.n ≤ 1048576) : Calls Tryd.prog 62 #[.agg #[.slice x.t.a x.t.n x.t.c, .int .i64 h.n5, .slice x.s.a x.s.n x.s.c]] w fun e w' => e = .returned (.int .i64 (sgFlt h.s)) ∧ Below w.heap.size w w' := by
  have hb := below_alloc w (.cells #[.slice x.t.a x.t.n x.t.c, .int .i64 h.n5, .slice x.s.a x.s.n x.s.c] 64)
  have HI := hide (implSigners_any x.s.a x.s.n x.s.c h.s _ (o.below hb (Nat.le_refl _)) hl)
  have HB := hide hb
  clear o hb
  generalize sgFlt h.s = q at HI
  go_enter Tryd.func62, Tryd.ntmps62
  go_wp2_with fail
  refine (unhide HI).mono ?_
  rintro e w' ⟨rfl, rfl⟩
  go_wp2_with fail
  go_ret
  exact ⟨rfl, unhide HB⟩

set_option maxHeartbeats 4000000 in
theorem commitsFault_any (x : HS) (h : Hd) (w : World) (o : BsRow w x.k.a x.k.n h.k) (hkl : x.k.n ≤ 1048576) : Calls Tryd.prog 63 #[.agg (hvals x h)] w fun e w' => e = .returned (.int .i64 (coFlt h.k)) ∧ Below w.heap.size w w' := by
  have k0 := SBlk.new w (hvals x h) 66
  have hb := below_alloc w (.cells (hvals x h) 66)
  obtain ⟨x0, x1, x2, x3, x4, x5, x6, x7, x8, x9, x10⟩ := hcells k0
  have HK := hide (o.below hb (Nat.le_refl _))
  have HB := hide hb
  obtain ⟨W0, e0⟩ : ∃ W0, w.alloc (.cells (hvals x h) 66) = W0 := ⟨_, rfl⟩
  rw [e0] at x10 HK HB
  clear o hb k0 x0 x1 x2 x3 x4 x5 x6 x7 x8 x9
  unfold hvals at e0 ⊢
  by_cases h7 : 7 < x.k.n
  · have d7 : decide ((7 : Int) < (x.k.n : Int)) = true := decide_eq_true (by omega)
    go_enter Tryd.func63, Tryd.ntmps63
    go_wp2_with (rw [e0])
    go_ret
    refine ⟨ret_int ?_, by first | exact unhide HB | (rw [e0]; exact unhide HB)⟩
    unfold coFlt; rw [if_pos (by rw [(unhide HK).1]; exact h7)]
  · have d7 : decide ((7 : Int) < (x.k.n : Int)) = false := decide_eq_false (by omega)
    have HE3 : Hid (coFlt h.k = coFrom h.k) := by
      show _ = _
      unfold coFlt; rw [if_neg (by rw [(unhide HK).1]; exact h7)]
    go_enter Tryd.func63, Tryd.ntmps63
    go_upto_region 1 with (rw [e0])
    try rw [e0]
    clear e0
    go_wp2_with fail
    go_loop [12] (fun i => ∃ k : Nat, k ≤ x.k.n ∧ i = .int .i64 k ∧ coFrom h.k = coFrom (h.k.drop k)) (fun i => x.k.n - (intOf i).toNat)
    case atStart => exact ⟨0, Nat.zero_le _, rfl, by simp⟩
    case round =>
      obtain ⟨k, hk, rfl, hpre⟩ := hrel
      by_cases hlt : k < x.k.n
      · obtain ⟨z, hit⟩ : ∃ z, h.k[k]? = some z := ⟨_, List.getElem?_eq_getElem (by rw [(unhide HK).1]; exact hlt)⟩
        have hst := coFrom_step h.k k z hit
        rw [← hpre] at hst
        obtain ⟨bb, off, hba, _, hcc⟩ := (unhide HK).at (by omega)
        obtain ⟨s1, m1, d1, p0, r1⟩ := hcc k z hit
        have hzl : z.length = m1 := r1.1
        rw [hzl] at hst
        have HS := hide hst
        have i1 : (0 : Int) ≤ (k : Int) := by omega
        have i2 : (k : Int) < (x.k.n : Int) := by omega
        clear r1 hst hpre hit hzl hcc x10
        by_cases h8 : m1 = 8
        · have d8 : (((m1 : Nat) : Int) != 8) = false := by simp [h8]
          rw [if_pos h8] at HS
          clear h8
          rw [hba]
          clear hba
          go_wp2_with fail
          go_round
          case rel => exact ⟨k + 1, by omega, by go_num, unhide HS⟩
          case measure => simp [intOf]; omega
        · have d8 : (((m1 : Nat) : Int) != 8) = true := by simp; omega
          rw [if_neg h8] at HS
          clear h8
          rw [hba]
          clear hba
          go_wp2_with fail
          go_ret
          exact ⟨ret_int (by rw [unhide HE3, unhide HS]), unhide HB⟩
      · obtain rfl : k = x.k.n := by omega
        have e := coFrom_end h.k x.k.n (by rw [(unhide HK).1]; exact Nat.le_refl _)
        rw [e] at hpre
        have HP := hide hpre
        clear e hpre
        go_wp2_with fail
        go_ret
        exact ⟨ret_int (by rw [unhide HE3, unhide HP]), unhide HB⟩

end Go.Proofs.YtbncoiljklagkaaDoor

/- What is proved here: what the program's blockOf answers: the same eleven cells. -/
namespace Go.Proofs.YtbncoiljklagkaaDoor
open Go.RowKit
set_option linter.unusedVariables false

set_option maxHeartbeats 4000000 in
theorem blockOf_any (x : HS) (h : Hd) (w : World) : Calls Tryd.prog 59 #[.agg (hvals x h)] w fun e w' => e = .returned (.agg (hvals x h)) ∧ Below w.heap.size w w' := by
  unfold hvals
  go_enter Tryd.func59, Tryd.ntmps59
  go_wp2_with fail
  refine bodyPost_ret (v := .agg #[.slice x.p.a x.p.n x.p.c, .int .i64 h.n1, .int .i64 h.n2, .int .i64 h.n3, .slice x.t.a x.t.n x.t.c, .int .i64 h.n5, .slice x.s.a x.s.n x.s.c, .slice x.r.a x.r.n x.r.c, .slice x.g.a x.g.n x.g.c, .slice x.e.a x.e.n x.e.c, .slice x.k.a x.k.n x.k.c]) (by simp [results, Tryd.results59, go_sem]) rfl ⟨rfl, ?_⟩
  exact ((Below.refl w.heap.size w).alloc (Nat.le_refl _) _).alloc (by simp) _

end Go.Proofs.YtbncoiljklagkaaDoor

/- What is proved here: what the program's HeaderFault answers: the fault of a header. -/
namespace Go.Proofs.YtbncoiljklagkaaDoor
open Go.RowKit
set_option linter.unusedVariables false

set_option maxRecDepth 100000 in
set_option maxHeartbeats 8000000 in
theorem hasLengths_any (x : HS) (h : Hd) (w : World) (o : HOk w x h) :
    Calls Tryd.prog 60 #[.agg (hvals x h)] w fun e w' => e = .returned (.bool (!hdLen h)) ∧ Below w.heap.size w w' := by
  have k0 := SBlk.new w (hvals x h) 66
  have hb := below_alloc w (.cells (hvals x h) 66)
  obtain ⟨W0, e0⟩ : ∃ W0, w.alloc (.cells (hvals x h) 66) = W0 := ⟨_, rfl⟩
  rw [e0] at k0 hb
  obtain ⟨x0, x1, x2, x3, x4, x5, x6, x7, x8, x9, x10⟩ := hcells k0
  have HC := hide (fun (W : World) (hb' : Below W0.heap.size W0 W) => hcells (k0.below hb' k0.lt))
  have HB := hide hb
  obtain ⟨b1, e1⟩ : ∃ b, (((x.p.n : Nat) : Int) != 32) = b := ⟨_, rfl⟩
  obtain ⟨b2, e2⟩ : ∃ b, (((x.t.n : Nat) : Int) != 0) = b := ⟨_, rfl⟩
  obtain ⟨b3, e3⟩ : ∃ b, (((x.t.n : Nat) : Int) != 4) = b := ⟨_, rfl⟩
  obtain ⟨b4, e4⟩ : ∃ b, (((x.r.n : Nat) : Int) != 32) = b := ⟨_, rfl⟩
  obtain ⟨b5, e5⟩ : ∃ b, (((x.g.n : Nat) : Int) != 4) = b := ⟨_, rfl⟩
  obtain ⟨b6, e6⟩ : ∃ b, (((x.e.n : Nat) : Int) != 0) = b := ⟨_, rfl⟩
  obtain ⟨b7, e7⟩ : ∃ b, (((x.e.n : Nat) : Int) != 4) = b := ⟨_, rfl⟩
  have HL : Hid (hdLen h = (b1 || (b2 && b3) || b4 || b5 || (b6 && b7))) := by
    show _ = _
    unfold hdLen
    rw [o.p.1, o.t.1, o.r.1, o.g.1, o.e.1, e1, e2, e3, e4, e5, e6, e7]
  have f1 : (((x.p.n : Nat) : Int) == 32) = !b1 := by rw [← e1]; simp [bne]
  have f4 : (((x.r.n : Nat) : Int) == 32) = !b4 := by rw [← e4]; simp [bne]
  have f5 : (((x.g.n : Nat) : Int) == 4) = !b5 := by rw [← e5]; simp [bne]
  have f6 : (((x.e.n : Nat) : Int) == 0) = !b6 := by rw [← e6]; simp [bne]
  have f7 : (((x.e.n : Nat) : Int) == 4) = !b7 := by rw [← e7]; simp [bne]
  have D1 := hide (fun W => isHash_any x.p.a x.p.n x.p.c W)
  have D2 := hide (fun W => hasAim_to x h b2 b3 W e2 e3)
  have D4 := hide (fun W => isHash_any x.r.a x.r.n x.r.c W)
  have D5 := hide (fun W => isAddr_any x.g.a x.g.n x.g.c W)
  simp only [f1] at D1
  simp only [f4] at D4
  simp only [f5] at D5
  clear o e1 e2 e3 e4 e5 e6 e7 f1 f4 f5 k0 hb
  generalize hdLen h = L at HL
  unfold hvals at e0 ⊢
  go_enter Tryd.func60, Tryd.ntmps60
  go_upto_region 1 with (rw [e0])
  try rw [e0]
  clear e0
  go_cut [3] (fun s wx => s = .bool (!(b6 && b7)) ∧ wx = W0)
  case first =>
    cases b6
    · have f6' : (((x.e.n : Nat) : Int) == 0) = true := f6
      clear f6 f7
      go_wp2_with fail
      go_meet
      exact ⟨rfl, rfl⟩
    · have f6' : (((x.e.n : Nat) : Int) == 0) = false := f6
      clear f6
      go_wp2_with fail
      go_meet
      exact ⟨by simp, rfl⟩
  case rest =>
    obtain ⟨rfl, hwc⟩ := hcut
    rw [hwc]
    clear hwc f6 f7
    generalize hb67 : (b6 && b7) = bs
    rw [hb67] at HL
    clear hb67
    generalize hb23 : (b2 && b3) = bt at D2
    rw [hb23] at HL
    clear hb23
    go_wp2_with fail
    refine ((unhide D1) _).mono ?_
    rintro e w1 ⟨rfl, rfl⟩
    cases b1
    case true =>
      go_wp2_with fail
      go_ret
      exact ⟨ret_bool (by rw [unhide HL]; simp), unhide HB⟩
    go_wp2_with fail
    refine ((unhide D2) _).mono ?_
    rintro e w1 ⟨rfl, b1⟩
    have HB1 := hide ((unhide HB).trans (b1.mono (unhide HB).size))
    cases bt
    case true =>
      go_wp2_with fail
      go_ret
      exact ⟨ret_bool (by rw [unhide HL]; simp), unhide HB1⟩
    obtain ⟨y0, y1, y2, y3, y4, y5, y6, y7, y8, y9, y10⟩ := (unhide HC) _ b1
    clear b1
    go_wp2_with fail
    refine ((unhide D4) _).mono ?_
    rintro e w2 ⟨rfl, rfl⟩
    cases b4
    case true =>
      go_wp2_with fail
      go_ret
      exact ⟨ret_bool (by rw [unhide HL]; simp), unhide HB1⟩
    go_wp2_with fail
    refine ((unhide D5) _).mono ?_
    rintro e w2 ⟨rfl, rfl⟩
    cases b5
    case true =>
      go_wp2_with fail
      go_ret
      exact ⟨ret_bool (by rw [unhide HL]; simp), unhide HB1⟩
    go_wp2_with fail
    go_ret
    exact ⟨ret_bool (by rw [unhide HL]; simp), unhide HB1⟩

set_option maxRecDepth 100000 in
set_option maxHeartbeats 8000000 in
theorem hasNumbers_any (x : HS) (h : Hd) (w : World) :
    Calls Tryd.prog 61 #[.agg (hvals x h)] w fun e w' => e = .returned (.bool (hdNum h)) ∧ Below w.heap.size w w' := by
  have k0 := SBlk.new w (hvals x h) 66
  have hb := below_alloc w (.cells (hvals x h) 66)
  obtain ⟨W0, e0⟩ : ∃ W0, w.alloc (.cells (hvals x h) 66) = W0 := ⟨_, rfl⟩
  rw [e0] at k0 hb
  obtain ⟨x0, x1, x2, x3, x4, x5, x6, x7, x8, x9, x10⟩ := hcells k0
  have HB := hide hb
  obtain ⟨c1, f1⟩ : ∃ c, within h.n1 0 1099511627776 = c := ⟨_, rfl⟩
  obtain ⟨c2, f2⟩ : ∃ c, within h.n2 0 1099511627776 = c := ⟨_, rfl⟩
  obtain ⟨c3, f3⟩ : ∃ c, within h.n3 0 9 = c := ⟨_, rfl⟩
  obtain ⟨c5, f5⟩ : ∃ c, within h.n5 0 2 = c := ⟨_, rfl⟩
  have HN : Hid (hdNum h = (c1 && c2 && c3 && c5)) := by
    show _ = _
    unfold hdNum
    rw [f1, f2, f3, f5]
  have D1 := hide (fun W => isNumber_to h.n1 c1 W f1)
  have D2 := hide (fun W => isNumber_to h.n2 c2 W f2)
  have D3 := hide (fun W => isWithin_to h.n3 0 9 c3 W f3)
  have D5 := hide (fun W => hasNonce_to x h c5 W f5)
  clear f1 f2 f3 f5 k0 hb
  generalize hdNum h = L at HN
  unfold hvals at e0 ⊢
  go_enter Tryd.func61, Tryd.ntmps61
  go_upto_region 1 with (rw [e0])
  try rw [e0]
  clear e0
  go_wp2_with fail
  refine ((unhide D1) _).mono ?_
  rintro e w1 ⟨rfl, rfl⟩
  cases c1
  · go_wp2_with fail
    go_ret
    exact ⟨ret_bool (by rw [unhide HN]; simp), unhide HB⟩
  go_wp2_with fail
  refine ((unhide D2) _).mono ?_
  rintro e w1 ⟨rfl, rfl⟩
  cases c2
  · go_wp2_with fail
    go_ret
    exact ⟨ret_bool (by rw [unhide HN]; simp), unhide HB⟩
  go_wp2_with fail
  refine ((unhide D3) _).mono ?_
  rintro e w1 ⟨rfl, rfl⟩
  cases c3
  · go_wp2_with fail
    go_ret
    exact ⟨ret_bool (by rw [unhide HN]; simp), unhide HB⟩
  go_wp2_with fail
  refine ((unhide D5) _).mono ?_
  rintro e w1 ⟨rfl, b1⟩
  go_wp2_with fail
  go_ret
  exact ⟨ret_bool (by rw [unhide HN]; simp), (unhide HB).trans (b1.mono (unhide HB).size)⟩

set_option maxRecDepth 100000 in
set_option maxHeartbeats 8000000 in
theorem implHeaderFault_any (x : HS) (h : Hd) (w : World) (o : HOk w x h) (m : HSm h) :
    Calls Tryd.prog 38 #[.agg (hvals x h)] w fun e w' => e = .returned (.int .i64 (hdFlt h)) ∧ Below w.heap.size w w' := by
  have k0 := SBlk.new w (hvals x h) 30
  have hb := below_alloc w (.cells (hvals x h) 30)
  obtain ⟨W0, e0⟩ : ∃ W0, w.alloc (.cells (hvals x h) 30) = W0 := ⟨_, rfl⟩
  rw [e0] at k0 hb
  obtain ⟨x0, x1, x2, x3, x4, x5, x6, x7, x8, x9, x10⟩ := hcells k0
  have HO := hide (fun (W : World) (hb : Below w.heap.size w W) => o.below hb (Nat.le_refl _))
  have hsl : x.s.n ≤ 1048576 := by have := o.s.1; have := m.s; omega
  have hkl : x.k.n ≤ 1048576 := by have := o.k.1; have := m.k; omega
  have HE : Hid (hdFlt h = if hdLen h = true then 1 else if hdNum h = false then 3 else if sgFlt h.s = 0 then coFlt h.k else sgFlt h.s) := rfl
  have D1 := hide (fun (W : World) (hb : Below w.heap.size w W) => hasLengths_any x h W ((unhide HO) W hb))
  have D2 := hide (fun (W : World) => hasNumbers_any x h W)
  have D3 := hide (fun (W : World) (hb : Below w.heap.size w W) => votesFault_any x h W ((unhide HO) W hb).s hsl)
  have D4 := hide (fun (W : World) (hb : Below w.heap.size w W) => commitsFault_any x h W ((unhide HO) W hb).k hkl)
  have D0 := hide (blockOf_any x h W0)
  have HB := hide hb
  clear o m hsl hkl HO k0 hb
  generalize hdLen h = L at HE D1
  generalize hdNum h = Nm at HE D2
  generalize sgFlt h.s = q at HE D3
  generalize coFlt h.k = cf at HE D4
  unfold hvals at e0 D0 D1 D2 D4 ⊢
  go_enter Tryd.func38, Tryd.ntmps38
  go_upto_region 1 with (rw [e0])
  try rw [e0]
  clear e0
  go_wp2_with fail
  refine (unhide D0).mono ?_
  rintro e w1 ⟨rfl, b1⟩
  have k1 := SBlk.new w1 (hvals x h) 66
  have hb1 := below_alloc w1 (.cells (hvals x h) 66)
  have hgl : w1.heap.size < (w1.alloc (.cells (hvals x h) 66)).heap.size := by simp
  have HB1 := hide ((unhide HB).trans ((b1.trans (hb1.mono b1.size)).mono (unhide HB).size))
  obtain ⟨W1, e1⟩ : ∃ W1, w1.alloc (.cells (hvals x h) 66) = W1 := ⟨_, rfl⟩
  rw [e1] at k1 HB1 hgl
  obtain ⟨y0, y1, y2, y3, y4, y5, y6, y7, y8, y9, y10⟩ := hcells k1
  have HC := hide (fun (W : World) (hb' : Below W1.heap.size W1 W) => hcells (k1.below hb' k1.lt))
  clear b1 hb1 k1 D0 HB x0 x1 x2 x3 x4 x5 x6 x7 x8 x9 x10
  unfold hvals at e1
  generalize hgb : w1.heap.size = gb at y0 y1 y2 y3 y4 y5 y6 y7 y8 y9 y10 HC hgl ⊢
  go_upto_region 2 with (rw [e1])
  try rw [e1]
  try rw [hgb]
  clear e1 hgb
  go_wp2_with fail
  refine ((unhide D1) _ (unhide HB1)).mono ?_
  rintro e w2 ⟨rfl, b2⟩
  have HB2 := hide ((unhide HB1).trans (b2.mono (unhide HB1).size))
  cases L
  case true =>
    go_wp2_with fail
    go_ret
    exact ⟨ret_int (by rw [unhide HE]; simp), unhide HB2⟩
  have K2 := hide b2
  obtain ⟨z0, z1, z2, z3, z4, z5, z6, z7, z8, z9, z10⟩ := (unhide HC) _ b2
  clear b2 y0 y1 y2 y3 y4 y5 y6 y7 y8 y9 y10
  go_wp2_with fail
  refine ((unhide D2) _).mono ?_
  rintro e w3 ⟨rfl, b3⟩
  have HB3 := hide ((unhide HB2).trans (b3.mono (unhide HB2).size))
  cases Nm
  · go_wp2_with fail
    go_ret
    exact ⟨ret_int (by rw [unhide HE]; simp), unhide HB3⟩
  have K3 := hide ((unhide K2).trans (b3.mono (unhide K2).size))
  obtain ⟨u0, u1, u2, u3, u4, u5, u6, u7, u8, u9, u10⟩ := (unhide HC) _ (unhide K3)
  clear b3 z0 z1 z2 z3 z4 z5 z6 z7 z8 z9 z10 K2 HB2
  go_wp2_with fail
  refine ((unhide D3) _ (unhide HB3)).mono ?_
  rintro e w4 ⟨rfl, b4⟩
  have HB4 := hide ((unhide HB3).trans (b4.mono (unhide HB3).size))
  have K4 := hide ((unhide K3).trans (b4.mono (unhide K3).size))
  clear b4 u0 u1 u2 u3 u4 u5 u6 u7 u8 u9 u10
  by_cases hq : q = 0
  · subst hq
    obtain ⟨v0, v1, v2, v3, v4, v5, v6, v7, v8, v9, v10⟩ := (unhide HC) _ (unhide K4)
    go_wp2_with fail
    refine ((unhide D4) _ (unhide HB4)).mono ?_
    rintro e w5 ⟨rfl, b5⟩
    go_wp2_with fail
    go_ret
    exact ⟨ret_int (by rw [unhide HE]; simp), (unhide HB4).trans (b5.mono (unhide HB4).size)⟩
  · have hne : (q != 0) = true := by simp [hq]
    go_wp2_with fail
    go_ret
    exact ⟨ret_int (by rw [unhide HE]; simp [hq]), unhide HB4⟩

end Go.Proofs.YtbncoiljklagkaaDoor

/- What is proved here: what the program's PackHeader answers: the fault of a header, or its bytes in new memory. -/
namespace Go.Proofs.YtbncoiljklagkaaDoor
open Go.RowKit
set_option linter.unusedVariables false
set_option maxRecDepth 100000

/-- What PackHeader answers. -/
def pkBytes (h : Hd) : List Int := if hdFlt h = 0 then packL h else []

set_option maxRecDepth 100000 in
set_option maxHeartbeats 8000000 in
theorem implPack_any (x : HS) (h : Hd) (w : World) (o : HOk w x h) (nn : HNil w x) (m : HSm h) :
    Calls Tryd.prog 40 #[.agg (hvals x h)] w fun e w' => ∃ a c, e = .returned (.agg #[.int .i64 (hdFlt h), .slice a (pkBytes h).length c]) ∧
      w'.ownsRow w.heap.size 5 1 (.slice a (pkBytes h).length c) (pkBytes h).length ((pkBytes h).map (Value.int .u8)) ∧ Below w.heap.size w w' := by
  have kb := SBlk.new w (hvals x h) 30
  have bb := below_alloc w (.cells (hvals x h) 30)
  have zb : (w.alloc (.cells (hvals x h) 30)).heap.size = w.heap.size + 1 := by simp
  obtain ⟨W0, eb⟩ : ∃ W0, w.alloc (.cells (hvals x h) 30) = W0 := ⟨_, rfl⟩
  rw [eb] at kb bb zb
  have k1 := (kb.next (.cells #[.int .i64 0, .slice none 0 0] 28))
  have kr := SBlk.new W0 #[.int .i64 0, .slice none 0 0] 28
  have b1 := bb.alloc bb.size (.cells #[.int .i64 0, .slice none 0 0] 28)
  have z1 : (W0.alloc (.cells #[.int .i64 0, .slice none 0 0] 28)).heap.size = w.heap.size + 2 := by simp; omega
  rw [zb] at kr
  obtain ⟨W1, e1⟩ : ∃ W1, W0.alloc (.cells #[.int .i64 0, .slice none 0 0] 28) = W1 := ⟨_, rfl⟩
  rw [e1] at k1 kr b1 z1
  have HCB := hide (fun (W' : World) (hb : Below W1.heap.size W1 W') => hcells (k1.below hb k1.lt))
  have HRB := hide (fun (W' : World) (hb : Below W1.heap.size W1 W') => kr.below hb kr.lt)
  have HON := hide (fun (W' : World) (hb : Below w.heap.size w W') => And.intro (o.below hb (Nat.le_refl _)) (nn.below hb (Nat.le_refl _)))
  have D1 := hide (implHeaderFault_any x h W1 (o.below b1 (Nat.le_refl _)) m)
  have HB1 := hide b1
  obtain ⟨x0, x1, x2, x3, x4, x5, x6, x7, x8, x9, x10⟩ := hcells k1
  have hz2 : w.heap.size + 1 < W1.heap.size := by omega
  clear o nn m kb bb k1 kr b1 zb
  have HD0 := hide (fun (W' : World) => blockOf_any x h W')
  have HIT : Hid (hdFlt h = 0 → ∀ (W' : World), Below w.heap.size w W' → Calls Tryd.prog 67 #[.agg (hvals x h)] W' fun e w' => ∃ a c, e = .returned (.slice a (hIts h).length c) ∧ ItRowN w' a (hIts h).length (hIts h) ∧ Below W'.heap.size W' w') := fun hf W' hb => items_any x h (good_of hf) W' ((unhide HON) W' hb).1 ((unhide HON) W' hb).2
  have HEN : Hid (hdFlt h = 0 → ∀ (W' : World) (a : Option Addr) (c : Nat), ItRowN W' a (hIts h).length (hIts h) → Calls Tryd.prog 66 #[.slice a (hIts h).length c] W' fun e w' => ∃ a' c', e = .returned (.agg #[.int .i64 0, .slice a' (packL h).length c']) ∧ w'.ownsRow W'.heap.size 5 1 (.slice a' (packL h).length c') (packL h).length ((packL h).map (Value.int .u8)) ∧ Below W'.heap.size W' w') := fun hf W' a c hr => by
    have gd := good_of hf
    obtain ⟨q1, q2⟩ := en_header gd
    have hl := hIts_len h
    have g1 := gd.s
    have g2 := gd.k
    have := implEnc_any a (hIts h).length c (hIts h) W' hr (by omega)
    rw [q1, q2] at this
    exact this
  have HPB : Hid (pkBytes h = if hdFlt h = 0 then packL h else []) := rfl
  clear HON
  generalize hdFlt h = q at D1 HIT HEN HPB ⊢
  generalize hIts h = IT at HIT HEN
  generalize IT.length = il at HIT HEN
  generalize packL h = PL at HEN HPB
  generalize pkBytes h = PB at HPB ⊢
  unfold hvals at eb D1 HD0 HIT ⊢
  have EB := hide eb
  have E1 := hide e1
  clear eb e1
  go_enter Tryd.func40, Tryd.ntmps40
  go_upto_region 1 with fail
  rw [unhide EB, unhide E1]
  clear EB E1
  go_wp2_with fail
  refine (unhide D1).mono ?_
  rintro e w2 ⟨rfl, b2⟩
  have kr2 := (unhide HRB) w2 b2
  have r0 := kr2.cell 0
  have r1 := kr2.cell 1
  have f0 := kr2.free 0
  have f1 := kr2.free 1
  simp only [List.getElem?_cons_zero, List.getElem?_cons_succ] at r0 r1
  have HB2 := hide ((unhide HB1).trans (b2.mono (unhide HB1).size))
  have K2 := hide b2
  clear b2 kr2 x0 x1 x2 x3 x4 x5 x6 x7 x8 x9 x10 D1
  by_cases hq : q = 0
  · subst hq
    have HPB2 : Hid (PB = PL) := by show _ = _; rw [unhide HPB, if_pos rfl]
    obtain ⟨y0, y1, y2, y3, y4, y5, y6, y7, y8, y9, y10⟩ := (unhide HCB) w2 (unhide K2)
    go_wp2_with fail
    refine ((unhide HD0) _).mono ?_
    rintro e w3 ⟨rfl, b3⟩
    have HB3 := hide ((unhide HB2).trans (b3.mono (unhide HB2).size))
    have K3 := hide ((unhide K2).trans (b3.mono (unhide K2).size))
    clear b3 y0 y1 y2 y3 y4 y5 y6 y7 y8 y9 y10
    go_wp2_with fail
    refine ((unhide HIT) (by first | exact rfl | trivial) _ (unhide HB3)).mono ?_
    rintro e w4 ⟨a4, c4, rfl, row4, b4⟩
    have HB4 := hide ((unhide HB3).trans (b4.mono (unhide HB3).size))
    have K4 := hide ((unhide K3).trans (b4.mono (unhide K3).size))
    clear b4
    go_wp2_with fail
    refine ((unhide HEN) (by first | exact rfl | trivial) _ a4 c4 row4).mono ?_
    rintro e w5 ⟨a5, c5, rfl, o5, b5⟩
    have HB5 := hide ((unhide HB4).trans (b5.mono (unhide HB4).size))
    have K5 := (unhide K4).trans (b5.mono (unhide K4).size)
    have kr5 := (unhide HRB) w5 K5
    have s0 := kr5.cell 0
    have s1 := kr5.cell 1
    have g0 := kr5.free 0
    have g1 := kr5.free 1
    simp only [List.getElem?_cons_zero, List.getElem?_cons_succ] at s0 s1
    have hz4 : w.heap.size + 1 < w4.heap.size := Nat.lt_of_lt_of_le hz2 (unhide K4).size
    have HO5 := hide o5
    have hwz : w.heap.size ≤ w4.heap.size := (unhide HB4).size
    clear K5 kr5 o5 b5 row4 r0 r1 f0 f1
    go_wp2_with fail
    refine bodyPost_ret (v := .agg #[.int .i64 0, .slice a5 PL.length c5]) (by simp [results, Tryd.results40, go_sem, s0, s1]) rfl ⟨a5, c5, by rw [unhide HPB2], ?_, ?_⟩
    · rw [unhide HPB2]
      exact ownsRow_base (ownsRow_setCell_below (ownsRow_setCell_below (unhide HO5) (by show w.heap.size + 1 < w4.heap.size; omega) _) (by show w.heap.size + 1 < w4.heap.size; omega) _) hwz
    · exact ((unhide HB5).setCell (p := ⟨w.heap.size + 1, _, none⟩) (by show w.heap.size ≤ w.heap.size + 1; omega) _).setCell (p := ⟨w.heap.size + 1, _, none⟩) (by show w.heap.size ≤ w.heap.size + 1; omega) _
  · have hne : (q != 0) = true := by simp [hq]
    have HPB2 : Hid (PB = []) := by show _ = _; rw [unhide HPB, if_neg hq]
    clear hq
    go_wp2_with fail
    refine bodyPost_ret (v := .agg #[.int .i64 q, .slice none 0 0]) (by simp [results, Tryd.results40, go_sem, r0, r1]) rfl ⟨none, 0, by rw [unhide HPB2]; rfl, ?_, ?_⟩
    · rw [unhide HPB2]; exact World.ownsRow_nil _ _ _ _
    · exact ((unhide HB2).setCell (p := ⟨w.heap.size + 1, _, none⟩) (by show w.heap.size ≤ w.heap.size + 1; omega) _).setCell (p := ⟨w.heap.size + 1, _, none⟩) (by show w.heap.size ≤ w.heap.size + 1; omega) _

end Go.Proofs.YtbncoiljklagkaaDoor

/- What is proved here: plain facts on a header's copy and on its bytes, for the law on PackHeader. -/
namespace Go.Proofs.YtbncoiljklagkaaDoor
open Go.RowKit
set_option linter.unusedVariables false

theorem OBss.nilOk {w : World} {g : Nat} {zss : List (List Int)} {T : TypeId} {C : Nat} (h : OBss w g zss T C) : BsNil w (some ⟨g, 0, none⟩) zss.length := by
  obtain ⟨vs, f, h1, h2, h3, h4, h5⟩ := h
  intro b off e i hi
  simp only [Option.some.injEq, Addr.mk.injEq, and_true] at e
  obtain ⟨rfl, rfl⟩ := e
  obtain ⟨z, hz⟩ : ∃ z, zss[i]? = some z := ⟨_, List.getElem?_eq_getElem hi⟩
  obtain ⟨q1, _⟩ := h5 i z hi hz
  exact ⟨_, _, _, by rw [Nat.zero_add, h1.cell]; exact q1, fun e => by cases e⟩

theorem HOwn.nilOk {w : World} {B : Nat} {x : HS} {h : Hd} (o : HOwn w B x h) : HNil w x := by
  obtain ⟨g1, g2, g3, g4, g5, g6, g7, rfl, _, o1, o2, o3, o4, o5, o6, o7⟩ := o
  exact ⟨fun e => (by cases e), fun e => (by cases e), OBss.nilOk o3, fun e => (by cases e), fun e => (by cases e), fun e => (by cases e), OBss.nilOk o7⟩

theorem pk_range {w : World} {x : HS} {h : Hd} (o : HOk w x h) : ∀ y ∈ pkBytes h, 0 ≤ y ∧ y ≤ 255 := by
  unfold pkBytes
  split
  · rename_i hf
    have gd := good_of hf
    refine wrapL_range (bd6 h) (by have := (bd_length gd).2.2.2.2.2; omega) ?_
    intro y hy
    unfold bd6 bd5 bd4 bd3 bd2 bd1 at hy
    simp only [List.mem_append] at hy
    have hp := pcL_range h.p (by have := gd.p; omega) o.p.2.1 y
    have h1 := pcL_range (shortF 7 h.n1) (by have := sh_length h.n1; omega) (shortF_range 7 _) y
    have h2 := pcL_range (shortF 7 h.n2) (by have := sh_length h.n2; omega) (shortF_range 7 _) y
    have h3 := pcL_range (shortF 7 h.n3) (by have := sh_length h.n3; omega) (shortF_range 7 _) y
    have ht := pcL_range h.t (by have := gd.t; omega) o.t.2.1 y
    have h5 := pcL_range (shortF 7 h.n5) (by have := sh_length h.n5; omega) (shortF_range 7 _) y
    have hs := wrapL_range (pcsL h.s) (by have := pcsL_length h.s gd.sz; have := gd.s; omega) (pcsL_range h.s gd.sz o.s.bytes) y
    have hr := pcL_range h.r (by have := gd.r; omega) o.r.2.1 y
    have hg := pcL_range h.g (by have := gd.g; omega) o.g.2.1 y
    have he := pcL_range h.e (by have := gd.e; omega) o.e.2.1 y
    have hk := wrapL_range (pcsL h.k) (by have := pcsL_length h.k gd.kz; have := gd.k; omega) (pcsL_range h.k gd.kz o.k.bytes) y
    rcases hy with ((((((((((hy | hy) | hy) | hy) | hy) | hy) | hy) | hy) | hy) | hy) | hy)
    · exact hp hy
    · exact h1 hy
    · exact h2 hy
    · exact h3 hy
    · exact ht hy
    · exact h5 hy
    · exact hs hy
    · exact hr hy
    · exact hg hy
    · exact he hy
    · exact hk hy
  · intro y hy; simp at hy

theorem pk_length (h : Hd) : (pkBytes h).length ≤ 1200 := by
  unfold pkBytes
  split
  · rename_i hf
    have h1 := wrapL_length (bd6 h)
    have h2 := (bd_length (good_of hf)).2.2.2.2.2
    unfold packL
    omega
  · simp

end Go.Proofs.YtbncoiljklagkaaDoor

/- What is proved here: plain facts on bytes that are padded to a multiple of 136; no program is named. -/
namespace Go.Proofs.YtbncoiljklagkaaDoor
set_option linter.unusedVariables false

/-- How many bytes there are behind the padding. -/
def padLen (n : Nat) : Nat := 136 * (n / 136 + 1)

theorem padLen_lt (n : Nat) : n < padLen n ∧ padLen n ≤ n + 136 ∧ padLen n % 136 = 0 := by unfold padLen; omega

theorem padLen_first (n m : Nat) (h1 : n < m) (h2 : m ≤ padLen n) (h3 : m % 136 = 0) : m = padLen n := by unfold padLen at h2 ⊢; omega

/-- The last byte of the padding. -/
def padLast (n : Nat) : Int := if n + 1 = padLen n then 129 else 128

/-- The bytes, a byte 1, and k zeros. -/
def padRaw (zs : List Int) (k : Nat) : List Int := zs ++ 1 :: List.replicate k 0

/-- Padded bytes. -/
def padB (zs : List Int) : List Int := (padRaw zs (padLen zs.length - zs.length - 1)).set (padLen zs.length - 1) (padLast zs.length)

theorem padRaw_length (zs : List Int) (k : Nat) : (padRaw zs k).length = zs.length + 1 + k := by simp [padRaw]; omega

theorem padRaw_succ (zs : List Int) (k : Nat) : padRaw zs (k + 1) = padRaw zs k ++ [0] := by
  unfold padRaw
  rw [List.replicate_succ', List.append_assoc]
  rfl

theorem padB_length (zs : List Int) : (padB zs).length = padLen zs.length := by
  have := padLen_lt zs.length
  unfold padB
  rw [List.length_set, padRaw_length]
  omega

theorem padRaw_range (zs : List Int) (k : Nat) (h : ∀ x ∈ zs, 0 ≤ x ∧ x ≤ 255) : ∀ x ∈ padRaw zs k, 0 ≤ x ∧ x ≤ 255 := by
  intro x hx
  unfold padRaw at hx
  rcases List.mem_append.1 hx with hx | hx
  · exact h x hx
  · rcases List.mem_cons.1 hx with rfl | hx
    · omega
    · rw [List.eq_of_mem_replicate hx]; omega

theorem padB_range (zs : List Int) (h : ∀ x ∈ zs, 0 ≤ x ∧ x ≤ 255) : ∀ x ∈ padB zs, 0 ≤ x ∧ x ≤ 255 := by
  intro x hx
  rcases List.mem_or_eq_of_mem_set hx with h' | h'
  · exact padRaw_range zs _ h x h'
  · subst h'; unfold padLast; split <;> omega

/-- What stands last ahead of the xor. -/
theorem padRaw_last (zs : List Int) : (padRaw zs (padLen zs.length - zs.length - 1)).getD (padLen zs.length - 1) 0 = if zs.length + 1 = padLen zs.length then 1 else 0 := by
  have hp := padLen_lt zs.length
  have hl := padRaw_length zs (padLen zs.length - zs.length - 1)
  rw [getD_at _ _ (by omega)]
  unfold padRaw
  rw [List.getElem_append_right (by omega)]
  split
  · rename_i he
    have e : padLen zs.length - 1 - zs.length = 0 := by omega
    simp [e]
  · rename_i he
    obtain ⟨q, hq⟩ : ∃ q, padLen zs.length - 1 - zs.length = q + 1 := ⟨padLen zs.length - 2 - zs.length, by omega⟩
    simp [hq]

end Go.Proofs.YtbncoiljklagkaaDoor

/- What is proved here: plain facts on bytes soaked into a state of lanes, and what KeccakOf answers; no program is named. -/
namespace Go.Proofs.YtbncoiljklagkaaDoor
open Go.RowKit
set_option linter.unusedVariables false

/-- The k lowest bytes of a lane. -/
def lowB (b : Nat → Nat) : Nat → Nat
  | 0 => 0
  | k + 1 => lowB b k + b k * 2 ^ (8 * k)

theorem lowB_lt (b : Nat → Nat) (hb : ∀ i, b i < 256) : ∀ k, lowB b k < 2 ^ (8 * k)
  | 0 => by simp [lowB]
  | k + 1 => by
    have i := lowB_lt b hb k
    have h := hb k
    unfold lowB
    have e : 2 ^ (8 * (k + 1)) = 256 * 2 ^ (8 * k) := by rw [show 8 * (k + 1) = 8 * k + 8 by omega, Nat.pow_add, Nat.mul_comm]
    rw [e]
    have m : (b k + 1) * 2 ^ (8 * k) ≤ 256 * 2 ^ (8 * k) := Nat.mul_le_mul_right _ (by omega)
    rw [Nat.add_mul] at m
    omega

/-- Byte i behind a place. -/
def byteN (bs : List Int) (p i : Nat) : Nat := (bs.getD (p + i) 0).toNat

/-- The lane that begins at a place of bytes. -/
def laneB (bs : List Int) (p : Nat) : Nat := lowB (byteN bs p) 8

theorem byteN_lt {bs : List Int} (h : ∀ x ∈ bs, 0 ≤ x ∧ x ≤ 255) (p i : Nat) : byteN bs p i < 256 := by
  unfold byteN
  rw [List.getD_eq_getElem?_getD]
  cases e : bs[p + i]? with
  | none => simp
  | some x => have := h x (List.mem_of_getElem? e); simp; omega

theorem byteN_cast {bs : List Int} (h : ∀ x ∈ bs, 0 ≤ x ∧ x ≤ 255) (p i : Nat) : ((byteN bs p i : Nat) : Int) = bs.getD (p + i) 0 := by
  unfold byteN
  rw [List.getD_eq_getElem?_getD]
  cases e : bs[p + i]? with
  | none => simp
  | some x => have := h x (List.mem_of_getElem? e); simp; omega

theorem laneB_lt {bs : List Int} (h : ∀ x ∈ bs, 0 ≤ x ∧ x ≤ 255) (p : Nat) : laneB bs p < 18446744073709551616 := lowB_lt _ (byteN_lt h p) 8

theorem laneB_words {bs : List Int} (h : ∀ x ∈ bs, 0 ≤ x ∧ x ≤ 255) (p : Nat) :
    (hiW (laneB bs p) : Int) = bs.getD (p + 4) 0 + bs.getD (p + 5) 0 * 256 + bs.getD (p + 6) 0 * 65536 + bs.getD (p + 7) 0 * 16777216 ∧
    (loW (laneB bs p) : Int) = bs.getD (p + 0) 0 + bs.getD (p + 1) 0 * 256 + bs.getD (p + 2) 0 * 65536 + bs.getD (p + 3) 0 * 16777216 := by
  have c0 := byteN_cast h p 0
  have c1 := byteN_cast h p 1
  have c2 := byteN_cast h p 2
  have c3 := byteN_cast h p 3
  have c4 := byteN_cast h p 4
  have c5 := byteN_cast h p 5
  have c6 := byteN_cast h p 6
  have c7 := byteN_cast h p 7
  have l0 := byteN_lt h p 0
  have l1 := byteN_lt h p 1
  have l2 := byteN_lt h p 2
  have l3 := byteN_lt h p 3
  have l4 := byteN_lt h p 4
  have l5 := byteN_lt h p 5
  have l6 := byteN_lt h p 6
  have l7 := byteN_lt h p 7
  rw [← c0, ← c1, ← c2, ← c3, ← c4, ← c5, ← c6, ← c7]
  unfold hiW loW laneB
  simp only [lowB]
  generalize byteN bs p 0 = x0 at *
  generalize byteN bs p 1 = x1 at *
  generalize byteN bs p 2 = x2 at *
  generalize byteN bs p 3 = x3 at *
  generalize byteN bs p 4 = x4 at *
  generalize byteN bs p 5 = x5 at *
  generalize byteN bs p 6 = x6 at *
  generalize byteN bs p 7 = x7 at *
  clear c0 c1 c2 c3 c4 c5 c6 c7
  omega

/-- A block soaked into a state, lane by lane. -/
def soakAt (Z : List Nat) (bs : List Int) (p : Nat) : Nat → List Nat
  | 0 => Z
  | i + 1 => (soakAt Z bs p i).set i ((soakAt Z bs p i).getD i 0 ^^^ laneB bs (p + i * 8))

theorem soakAt_length (Z : List Nat) (bs : List Int) (p : Nat) : ∀ i, (soakAt Z bs p i).length = Z.length
  | 0 => rfl
  | i + 1 => by unfold soakAt; rw [List.length_set, soakAt_length Z bs p i]

theorem soakAt_lanes {Z : List Nat} {bs : List Int} (hZ : Lanes Z) (h : ∀ x ∈ bs, 0 ≤ x ∧ x ≤ 255) (p : Nat) : ∀ i, Lanes (soakAt Z bs p i)
  | 0 => hZ
  | i + 1 => by
    have ih := soakAt_lanes hZ h p i
    refine ⟨by rw [soakAt_length]; exact hZ.1, fun z hz => ?_⟩
    unfold soakAt at hz
    rcases List.mem_or_eq_of_mem_set hz with e | e
    · exact ih.2 z e
    · rw [e]
      have := getD_lt ih.2 (by decide) i
      exact Nat.xor_lt_two_pow (n := 64) this (laneB_lt h _)

/-- The state behind n blocks. -/
def spAt (bs : List Int) : Nat → List Nat
  | 0 => List.replicate 25 0
  | n + 1 => mixAt (soakAt (spAt bs n) bs (136 * n) 17) 24

theorem spAt_lanes {bs : List Int} (h : ∀ x ∈ bs, 0 ≤ x ∧ x ≤ 255) : ∀ n, Lanes (spAt bs n)
  | 0 => ⟨by simp [spAt], fun z hz => by rw [spAt] at hz; rw [List.eq_of_mem_replicate hz]; decide⟩
  | n + 1 => mixAt_lanes (soakAt_lanes (spAt_lanes h n) h _ 17) 24

/-- A block taken out of the bytes. -/
theorem laneB_block (bs : List Int) (p q : Nat) (hq : q + 8 ≤ 136) : laneB ((bs.drop p).take 136) q = laneB bs (p + q) := by
  have e : ∀ k, k ≤ 8 → lowB (byteN ((bs.drop p).take 136) q) k = lowB (byteN bs (p + q)) k := by
    intro k
    induction k with
    | zero => intro _; rfl
    | succ k ih =>
      intro hk
      unfold lowB
      rw [ih (by omega)]
      have : byteN ((bs.drop p).take 136) q k = byteN bs (p + q) k := by
        unfold byteN
        rw [List.getD_eq_getElem?_getD, List.getD_eq_getElem?_getD, List.getElem?_take_of_lt (by omega), List.getElem?_drop, Nat.add_assoc]
      rw [this]
  exact e 8 (Nat.le_refl _)

theorem soakAt_block (Z : List Nat) (bs : List Int) (p : Nat) : ∀ i, i ≤ 17 → soakAt Z ((bs.drop p).take 136) 0 i = soakAt Z bs p i
  | 0, _ => rfl
  | i + 1, h => by
    unfold soakAt
    rw [soakAt_block Z bs p i (by omega), Nat.zero_add, laneB_block bs p (i * 8) (by omega)]

/-- The 32 bytes of a state. -/
def hashOf (Z : List Nat) : List Int := (List.range 32).map fun i => ((Z.getD (i / 8) 0 / 2 ^ (8 * (i % 8)) % 256 : Nat) : Int)

theorem hashOf_length (Z : List Nat) : (hashOf Z).length = 32 := by simp [hashOf]

/-- What KeccakOf answers. -/
def kcCode (zs : List Int) : Int := if 1200 < zs.length then 2 else 0
def kcBytes (zs : List Int) : List Int := if 1200 < zs.length then [] else hashOf (spAt (padB zs) (padLen zs.length / 136))

theorem kcBytes_length (zs : List Int) : (kcBytes zs).length ≤ 32 := by
  unfold kcBytes; split
  · simp
  · rw [hashOf_length]; omega

theorem kcBytes_range (zs : List Int) (h : ∀ x ∈ zs, 0 ≤ x ∧ x ≤ 255) : ∀ x ∈ kcBytes zs, 0 ≤ x ∧ x ≤ 255 := by
  unfold kcBytes; split
  · intro x hx; simp at hx
  · intro x hx
    obtain ⟨i, _, rfl⟩ := List.mem_map.1 hx
    omega

end Go.Proofs.YtbncoiljklagkaaDoor

/- What is proved here: plain facts on what a header is hashed to: without its commits, and without its seal; no program is named. -/
namespace Go.Proofs.YtbncoiljklagkaaDoor
open Go.RowKit
set_option linter.unusedVariables false

/-- A header without commits, and its slices. -/
def noK (h : Hd) : Hd := { h with k := [] }
def xNoK (x : HS) : HS := { x with k := ⟨none, 0, 0⟩ }
/-- A header without its seal, and its slices. -/
def noE (h : Hd) : Hd := { h with e := [] }
def xNoE (x : HS) : HS := { x with e := ⟨none, 0, 0⟩ }

theorem hdFlt_noK {h : Hd} (hf : hdFlt h = 0) : hdFlt (noK h) = 0 := by
  unfold hdFlt at hf ⊢
  have e1 : hdLen (noK h) = hdLen h := rfl
  have e2 : hdNum (noK h) = hdNum h := rfl
  have e3 : (noK h).s = h.s := rfl
  have e4 : coFlt (noK h).k = 0 := by simp [noK, coFlt, coFrom]
  rw [e1, e2, e3, e4]
  split at hf
  · omega
  · rename_i h1
    rw [if_neg h1]
    split at hf
    · omega
    · rename_i h2
      rw [if_neg h2]
      split at hf
      · rename_i h3; rw [if_pos h3]
      · rename_i h3; exact absurd hf h3

theorem hdFlt_noE {h : Hd} (hf : hdFlt h = 0) : hdFlt (noE h) = 0 := by
  have hl : hdLen h = false := by
    cases hh : hdLen h with
    | false => rfl
    | true => unfold hdFlt at hf; rw [if_pos hh] at hf; omega
  have e1 : hdLen (noE h) = false := by
    unfold hdLen at hl ⊢
    simp only [Bool.or_eq_false_iff] at hl ⊢
    exact ⟨hl.1, by simp [noE]⟩
  have e2 : hdNum (noE h) = hdNum h := rfl
  have e3 : (noE h).s = h.s := rfl
  have e4 : (noE h).k = h.k := rfl
  unfold hdFlt at hf ⊢
  rw [e1, e2, e3, e4]
  rw [hl] at hf
  exact hf

theorem BRow.nil0 (w : World) : BRow w none 0 [] := ⟨rfl, fun n hn => by simp at hn, fun _ => rfl, fun y hy => by cases hy⟩
theorem BsRow.nil0 (w : World) : BsRow w none 0 [] := ⟨rfl, fun z hz => by simp at hz, fun hp => absurd hp (Nat.lt_irrefl _)⟩

theorem HOk.noK {w : World} {x : HS} {h : Hd} (o : HOk w x h) : HOk w (xNoK x) (noK h) := ⟨o.p, o.t, o.s, o.r, o.g, o.e, BsRow.nil0 w⟩
theorem HOk.noE {w : World} {x : HS} {h : Hd} (o : HOk w x h) : HOk w (xNoE x) (noE h) := ⟨o.p, o.t, o.s, o.r, o.g, BRow.nil0 w, o.k⟩
theorem HNil.noK {w : World} {x : HS} (o : HNil w x) : HNil w (xNoK x) := ⟨o.p, o.t, o.s, o.r, o.g, o.e, fun b off e => by cases e⟩
theorem HNil.noE {w : World} {x : HS} (o : HNil w x) : HNil w (xNoE x) := ⟨o.p, o.t, o.s, o.r, o.g, fun _ => rfl, o.k⟩
theorem HSm.noK {h : Hd} (o : HSm h) : HSm (noK h) := ⟨o.p, o.t, o.s, o.sz, o.r, o.g, o.e, Nat.zero_le _, fun z hz => by simp [Go.Proofs.YtbncoiljklagkaaDoor.noK] at hz⟩
theorem HSm.noE {h : Hd} (o : HSm h) : HSm (noE h) := ⟨o.p, o.t, o.s, o.sz, o.r, o.g, Nat.zero_le _, o.k, o.kz⟩

/-- What HashOf and SealHash answer. -/
def hsBytes (h : Hd) : List Int := if hdFlt h = 0 then kcBytes (packL (noK h)) else []
def shBytes (h : Hd) : List Int := if hdFlt h = 0 then kcBytes (packL (noK (noE h))) else []

theorem pkBytes_good {h : Hd} (hf : hdFlt h = 0) : pkBytes h = packL h := if_pos hf

theorem packL_le {h : Hd} (hf : hdFlt h = 0) : (packL h).length ≤ 1200 := by
  have := pk_length h
  rw [pkBytes_good hf] at this
  exact this

theorem packL_pos (h : Hd) : 0 < (packL h).length := wrapL_pos _

theorem packL_rng {w : World} {x : HS} {h : Hd} (hf : hdFlt h = 0) (o : HOk w x h) : ∀ y ∈ packL h, 0 ≤ y ∧ y ≤ 255 := by
  have := pk_range o
  rw [pkBytes_good hf] at this
  exact this

theorem kcCode_good {z : List Int} (h : z.length ≤ 1200) : kcCode z = 0 := if_neg (by omega)

theorem kcBytes_good {z : List Int} (h : z.length ≤ 1200) : (kcBytes z).length = 32 := by
  unfold kcBytes
  rw [if_neg (by omega), hashOf_length]

theorem hs_length (h : Hd) : (hsBytes h).length ≤ 32 := by
  unfold hsBytes; split
  · exact kcBytes_length _
  · simp

theorem shh_length (h : Hd) : (shBytes h).length ≤ 32 := by
  unfold shBytes; split
  · exact kcBytes_length _
  · simp

theorem hs_range {w : World} {x : HS} {h : Hd} (o : HOk w x h) : ∀ y ∈ hsBytes h, 0 ≤ y ∧ y ≤ 255 := by
  unfold hsBytes; split
  · rename_i hf; exact kcBytes_range _ (packL_rng (hdFlt_noK hf) o.noK)
  · intro y hy; simp at hy

theorem shh_range {w : World} {x : HS} {h : Hd} (o : HOk w x h) : ∀ y ∈ shBytes h, 0 ≤ y ∧ y ≤ 255 := by
  unfold shBytes; split
  · rename_i hf; exact kcBytes_range _ (packL_rng (hdFlt_noK (hdFlt_noE hf)) o.noE.noK)
  · intro y hy; simp at hy

theorem shBytes_eq {h : Hd} (hf : hdFlt h = 0) : shBytes h = hsBytes (noE h) := by
  unfold shBytes hsBytes
  rw [if_pos hf, if_pos (hdFlt_noE hf)]

end Go.Proofs.YtbncoiljklagkaaDoor

/- What is proved here: the program's last step of a round, told by lanes. -/
namespace Go.Proofs.YtbncoiljklagkaaDoor
open Go.RowKit
set_option linter.unusedVariables false
attribute [local go_sem ↓] Go.wp_at_zero Go.wp_at_succ

theorem ones_xor (v : Nat) (h : v < 18446744073709551616) : 18446744073709551615 ^^^ v = 18446744073709551615 - v := by
  apply Nat.eq_of_testBit_eq
  intro i
  have e1 : Nat.testBit 18446744073709551615 i = decide (i < 64) := Nat.testBit_two_pow_sub_one 64 i
  have e2 : (18446744073709551615 - v).testBit i = (decide (i < 64) && !v.testBit i) := by
    rw [show 18446744073709551615 - v = 2 ^ 64 - (v + 1) by omega]
    exact Nat.testBit_two_pow_sub_succ (by omega) i
  rw [Nat.testBit_xor, e1, e2]
  by_cases hi : i < 64
  · simp [hi]
  · have : v.testBit i = false := Nat.testBit_lt_two_pow (Nat.lt_of_lt_of_le h (Nat.pow_le_pow_right (show 0 < 2 by decide) (by omega : 64 ≤ i)))
    simp [hi, this]

theorem chi_u64 (v0 v1 v2 : Nat) (h0 : v0 < 18446744073709551616) (h1 : v1 < 18446744073709551616) (h2 : v2 < 18446744073709551616) :
    bits .xor .u64 (v0 : Int) (bits .and .u64 (bits .xor .u64 (if IntKind.u64.signed = true then -1 else IntKind.u64.max) (v1 : Int)) (v2 : Int)) = ((v0 ^^^ ((18446744073709551615 - v1) &&& v2) : Nat) : Int) := by
  have e : (if IntKind.u64.signed = true then (-1 : Int) else IntKind.u64.max) = ((18446744073709551615 : Nat) : Int) := by decide
  rw [e, u64_xor_nat _ _ (by decide) h1, ones_xor v1 h1, u64_and_nat _ _ (by omega) h2, u64_xor_nat _ _ h0 (and_lt h2)]

set_option maxRecDepth 100000 in
set_option maxHeartbeats 1000000 in
theorem cross_any (B : List Nat) (hB : Lanes B) (w : World) :
    Calls Tryd.prog 102 #[.agg (vals B).toArray] w fun e w' => e = .returned (.agg (vals (chi B)).toArray) ∧ Below w.heap.size w w' := by
  have HBL := hide hB
  have blen := hB.1
  clear hB
  generalize hV : vals B = V
  have HV := hide hV
  clear hV
  go_enter Tryd.func102, Tryd.ntmps102
  go_upto_region 1 with fail
  obtain ⟨w1, hw1⟩ : ∃ w1, w1 = (w.alloc (.cells V.toArray 72)).alloc (.cells (vals (List.replicate 25 0)).toArray 72) := ⟨_, rfl⟩
  have e1 : (w.alloc (.cells V.toArray 72)).alloc (.cells #[.int .u64 0, .int .u64 0, .int .u64 0, .int .u64 0, .int .u64 0, .int .u64 0, .int .u64 0, .int .u64 0, .int .u64 0, .int .u64 0, .int .u64 0, .int .u64 0, .int .u64 0, .int .u64 0, .int .u64 0, .int .u64 0, .int .u64 0, .int .u64 0, .int .u64 0, .int .u64 0, .int .u64 0, .int .u64 0, .int .u64 0, .int .u64 0, .int .u64 0] 72) = w1 := by rw [hw1]; rfl
  rw [e1]
  have b1 : Below w.heap.size w w1 := by rw [hw1]; exact (below_alloc w _).alloc (by simp) _
  have S1 : UBlk w1 w.heap.size B 72 := by
    rw [hw1, ← unhide HV]
    exact (UBlk.new w B _).below (below_alloc _ _) (by simp)
  have s1 : w1.heap.size = w.heap.size + 2 := by rw [hw1]; simp
  have R1 : UBlk w1 (w.heap.size + 1) (List.replicate 25 0) 72 := by
    have := UBlk.new (w.alloc (.cells V.toArray 72)) (List.replicate 25 0) 72
    rw [hw1]
    simpa using this
  have HLD := hide (load25 S1 blen)
  have N1 := UBlk.new w1 (List.replicate 25 0) 72
  obtain ⟨w2, hst, O2, K2, _⟩ := store25 N1 (by simp) blen
  have HST : Hid ((Instr.storeAt 72 (.pointer (some ⟨w1.heap.size, 0, none⟩)) (.agg (vals B).toArray)).run Tryd.prog (w1.alloc (.cells #[.int .u64 0, .int .u64 0, .int .u64 0, .int .u64 0, .int .u64 0, .int .u64 0, .int .u64 0, .int .u64 0, .int .u64 0, .int .u64 0, .int .u64 0, .int .u64 0, .int .u64 0, .int .u64 0, .int .u64 0, .int .u64 0, .int .u64 0, .int .u64 0, .int .u64 0, .int .u64 0, .int .u64 0, .int .u64 0, .int .u64 0, .int .u64 0, .int .u64 0] 72)) = .ok () w2) := hst
  have B2 : Below w1.heap.size w1 w2 := (below_alloc w1 _).trans (K2 _ (Nat.le_refl _))
  have S2 := S1.below B2 S1.lt
  have R2 := R1.below B2 R1.lt
  have G2 := b1.trans (B2.mono b1.size)
  rw [unhide HV] at HLD HST
  have HS2 := hide S2
  have HR2 := hide R2
  have HO2 := hide O2
  have HG2 := hide G2
  rw [s1] at HST HO2
  clear e1 hw1 b1 S1 R1 N1 hst O2 K2 B2 S2 R2 G2
  go_upto_block 0 with (first | refine wpList_load_eq rfl 72 (.tmp 1) rfl _ _ rfl (unhide HLD) ?_ | refine wpList_store_eq rfl 72 (.tmp 3) (.tmp 6) rfl _ _ rfl rfl w2 (unhide HST) ?_)
  clear HST HLD
  go_wp2_with fail
  go_loopw [4] (fun r wr => ∃ row : Nat, row ≤ 25 ∧ row % 5 = 0 ∧ r = .int .i64 row ∧ UBlk wr w.heap.size B 72 ∧ UBlk wr (w.heap.size + 1) (List.replicate 25 0) 72 ∧ UBlk wr (w.heap.size + 2) ((chi B).take row ++ B.drop row) 72 ∧ Below w.heap.size w wr)
    (fun r _ => 25 - (intOf r).toNat)
  case atStart => exact ⟨0, by omega, by omega, rfl, unhide HS2, unhide HR2, by simpa using unhide HO2, unhide HG2⟩
  case round =>
    obtain ⟨row, hr, hr5, rfl, hS, hR, hO, hG⟩ := hrel
    clear HS2 HR2 HO2 HG2
    have HS := hide hS
    have HR := hide hR
    have HO := hide hO
    have HG := hide hG
    clear hS hR hO hG
    by_cases hlt : row < 25
    · have hdk : decide ((row : Int) < 25) = true := decide_eq_true (by omega)
      go_wp2_with fail
      go_loopw [11] (fun c wr => ∃ X : Nat, X ≤ 5 ∧ c = .int .i64 X ∧ UBlk wr w.heap.size B 72 ∧ UBlk wr (w.heap.size + 1) (List.replicate 25 0) 72 ∧ UBlk wr (w.heap.size + 2) ((chi B).take (row + X) ++ B.drop (row + X)) 72 ∧ Below w.heap.size w wr)
        (fun c _ => 5 - (intOf c).toNat)
      case atStart => exact ⟨0, by omega, rfl, unhide HS, unhide HR, unhide HO, unhide HG⟩
      case round =>
        obtain ⟨X, hX, rfl, hS, hR, hO, hG⟩ := hrel
        clear HS HR HO HG
        by_cases hx5 : X < 5
        · have hdx : decide ((X : Int) < 5) = true := decide_eq_true (by omega)
          obtain ⟨k, hk⟩ : ∃ k, k = row + X := ⟨_, rfl⟩
          obtain ⟨x1, hx1⟩ : ∃ x1, x1 = (X + 1) % 5 := ⟨_, rfl⟩
          obtain ⟨x2, hx2⟩ : ∃ x2, x2 = (X + 2) % 5 := ⟨_, rfl⟩
          obtain ⟨p1, hp1⟩ : ∃ p1, p1 = row + x1 := ⟨_, rfl⟩
          obtain ⟨p2, hp2⟩ : ∃ p2, p2 = row + x2 := ⟨_, rfl⟩
          rw [← hk] at hO
          have clen := (chi_lanes (unhide HBL)).1
          have hlen : ((chi B).take k ++ B.drop k).length = 25 := by simp; omega
          have c0 := hO.cell k (by omega)
          rw [fill_later (chi B) B 25 k clen blen (by omega)] at c0
          have f0 := hO.free k
          have c1 := hS.cell p1 (by omega)
          have c2 := hS.cell p2 (by omega)
          have hfill := fill_at (chi B) B 25 k clen blen (by omega)
          have hchi : (chi B).getD k 0 = chiOf B k := getDn_map _ _ _ (by omega)
          have hm : k % 5 = X := by omega
          have hkk : k - X = row := by omega
          have hchi2 : chiOf B k = B.getD k 0 ^^^ ((18446744073709551615 - B.getD p1 0) &&& B.getD p2 0) := by
            unfold chiOf
            rw [hm, hkk, ← hx1, ← hx2, ← hp1, ← hp2]
          rw [hchi, hchi2] at hfill
          have l0 : B.getD k 0 < 18446744073709551616 := getD_lt (unhide HBL).2 (by decide) _
          have l1 : B.getD p1 0 < 18446744073709551616 := getD_lt (unhide HBL).2 (by decide) _
          have l2 : B.getD p2 0 < 18446744073709551616 := getD_lt (unhide HBL).2 (by decide) _
          generalize B.getD k 0 = v0 at c0 hfill l0
          generalize B.getD p1 0 = v1 at c1 hfill l1
          generalize B.getD p2 0 = v2 at c2 hfill l2
          have HO5 := hide (hO.set k (v0 ^^^ ((18446744073709551615 - v1) &&& v2)))
          rw [hfill] at HO5
          have HS5 := hide (hS.other (b' := w.heap.size + 2) k (.int .u64 ((v0 ^^^ ((18446744073709551615 - v1) &&& v2) : Nat) : Int)) (by omega))
          have HR5 := hide (hR.other (b' := w.heap.size + 2) k (.int .u64 ((v0 ^^^ ((18446744073709551615 - v1) &&& v2) : Nat) : Int)) (by omega))
          have HG5 := hide (hG.setCell (p := ⟨w.heap.size + 2, k, none⟩) (by show w.heap.size ≤ w.heap.size + 2; omega) (.int .u64 ((v0 ^^^ ((18446744073709551615 - v1) &&& v2) : Nat) : Int)))
          have e1 : ((X : Int) + 1).tmod 5 = (x1 : Int) := by rw [Int.tmod_eq_emod_of_nonneg (by omega)]; omega
          have e2 : ((X : Int) + 2).tmod 5 = (x2 : Int) := by rw [Int.tmod_eq_emod_of_nonneg (by omega)]; omega
          have ek : (row : Int) + (X : Int) = (k : Int) := by omega
          have ep1 : (row : Int) + (x1 : Int) = (p1 : Int) := by omega
          have ep2 : (row : Int) + (x2 : Int) = (p2 : Int) := by omega
          have q1 : IntKind.i64.wrap ((X : Int) + 1) = (X : Int) + 1 := by rw [IntKind.wrap_i64]; omega
          have q2 : IntKind.i64.wrap ((X : Int) + 2) = (X : Int) + 2 := by rw [IntKind.wrap_i64]; omega
          have i0 : (k : Int) < 25 := by omega
          have i1 : (p1 : Int) < 25 := by omega
          have i2 : (p2 : Int) < 25 := by omega
          have hk' : row + (X + 1) = k + 1 := by omega
          have HK' := hide hk'
          clear hS hR hO hG hfill hchi hchi2 hm hkk hlen clen hk hx1 hx2 hp1 hp2 hk'
          go_wp2_with fail
          have HCV := hide (chi_u64 v0 v1 v2 l0 l1 l2)
          go_region
          rw [unhide HCV]
          go_wp2_with fail
          go_roundw
          case rel => exact ⟨X + 1, by omega, by go_num, unhide HS5, unhide HR5, by rw [unhide HK']; exact unhide HO5, (unhide HG5).drew⟩
          case measure => simp [intOf]; omega
        · obtain rfl : X = 5 := by omega
          have hdx : decide (((5 : Nat) : Int) < 5) = false := rfl
          go_wp2_with fail
          go_roundw
          case rel => exact ⟨row + 5, by omega, by omega, by go_num, hS, hR, hO, hG⟩
          case measure => simp [intOf]; omega
    · obtain rfl : row = 25 := by omega
      have hdk : decide (((25 : Nat) : Int) < 25) = false := rfl
      have clen := (chi_lanes (unhide HBL)).1
      have hO : UBlk wr (w.heap.size + 2) (chi B) 72 := by
        have := unhide HO
        rw [List.take_of_length_le (by omega), List.drop_eq_nil_of_le (by omega), List.append_nil] at this
        exact this
      have HLD := hide (load25 hO clen)
      obtain ⟨w3, hst, R3, K3, _⟩ := store25 (unhide HR) (by simp) clen
      have HST := hide hst
      have HR3 := hide R3
      have HG3 := hide ((unhide HG).trans (K3 w.heap.size (by omega)))
      clear hO hst R3 K3 HS HO HG HR
      go_wp2_with (first | refine wpList_load_eq rfl 72 (.tmp 3) rfl _ _ rfl (unhide HLD) ?_ | refine wpList_store_eq rfl 72 (.tmp 2) (.tmp 38) rfl _ _ rfl rfl w3 (unhide HST) ?_)
      exact bodyPost_ret (results_cell_row rfl _ _ (w.heap.size + 1) 72 _ (0, 0) _ rfl (unhide HR3) Tryd.underlying72 rfl (by rw [List.size_toArray, vals_length, clen]; kernel_rfl)) rfl ⟨rfl, unhide HG3⟩

end Go.Proofs.YtbncoiljklagkaaDoor

/- What is proved here: the program's step with the columns' sums, told by lanes. -/
namespace Go.Proofs.YtbncoiljklagkaaDoor
open Go.RowKit
set_option linter.unusedVariables false
attribute [local go_sem ↓] Go.wp_at_zero Go.wp_at_succ

/-- The state of which the first m lanes, column by column, are done. -/
def thAt (Z : List Nat) (m : Nat) : List Nat := (List.range 25).map fun i => if i % 5 * 5 + i / 5 < m then (theta Z).getD i 0 else Z.getD i 0

theorem thAt_length (Z : List Nat) (m : Nat) : (thAt Z m).length = 25 := by simp [thAt]

theorem thAt_zero (Z : List Nat) (h : Z.length = 25) : thAt Z 0 = Z := by
  unfold thAt
  simp only [Nat.not_lt_zero, if_false]
  exact map_getD Z 25 h

theorem thAt_all (Z : List Nat) : thAt Z 25 = theta Z := by
  have : thAt Z 25 = (List.range 25).map (fun i => (theta Z).getD i 0) := by
    unfold thAt
    apply List.map_congr_left
    intro i hi
    have : i < 25 := by simpa using hi
    rw [if_pos (by omega)]
  rw [this]
  exact map_getD _ 25 (by simp [theta])

theorem thAt_at (Z : List Nat) (x r : Nat) (hx : x < 5) (hr : r < 5) : (thAt Z (x * 5 + r)).getD (5 * r + x) 0 = Z.getD (5 * r + x) 0 := by
  unfold thAt
  rw [getDn_map _ _ _ (by omega), if_neg (by omega)]

theorem thAt_step (Z : List Nat) (x r : Nat) (hx : x < 5) (hr : r < 5) : (thAt Z (x * 5 + r)).set (5 * r + x) (Z.getD (5 * r + x) 0 ^^^ dOf (colAt Z 25) x) = thAt Z (x * 5 + r + 1) := by
  apply List.ext_getElem (by simp [thAt])
  intro i h1 h2
  have hi : i < 25 := by simpa [thAt] using h2
  rw [List.getElem_set]
  have e2 : ∀ h, (thAt Z (x * 5 + r + 1))[i]'h = if i % 5 * 5 + i / 5 < x * 5 + r + 1 then (theta Z).getD i 0 else Z.getD i 0 := by intro h; simp [thAt]
  have e1 : ∀ h, (thAt Z (x * 5 + r))[i]'h = if i % 5 * 5 + i / 5 < x * 5 + r then (theta Z).getD i 0 else Z.getD i 0 := by intro h; simp [thAt]
  rw [e2]
  by_cases hij : 5 * r + x = i
  · subst hij
    rw [if_pos rfl, if_pos (by omega)]
    unfold theta
    rw [getDn_map _ _ _ hi, show (5 * r + x) % 5 = x by omega]
  · rw [if_neg hij, e1]
    by_cases hc : i % 5 * 5 + i / 5 < x * 5 + r
    · rw [if_pos hc, if_pos (by omega)]
    · rw [if_neg hc, if_neg (by omega)]

theorem index25 (Z : List Nat) (hz : Z.length = 25) (k : Nat) (hk : k < 25) (w : World) : (Instr.index 72 (.agg (vals Z).toArray) (.int .i64 (k : Int))).run Tryd.prog w = .ok (.int .u64 (Z.getD k 0 : Int)) w := by
  have hn : (0 : Int) ≤ (k : Int) ∧ (k : Int) < ((25 : Nat) : Int) := by omega
  have hs : (sizeOf 70).run Tryd.prog w = .ok 1 w := by kernel_rfl
  have hu : Tryd.prog.underlying 70 = some (.int .u64) := by kernel_rfl
  have hv : (vals Z)[k]? = some (.int .u64 (Z.getD k 0 : Int)) := by
    rw [getDn_at Z k (by omega)]
    simp [vals, hz, hk]
  simp [Instr.index, run_underlying Tryd.underlying72, asIntOf, hn, go_sem, hs, hv]
  intro h
  omega

set_option maxRecDepth 100000 in
set_option maxHeartbeats 1000000 in
theorem theta_any (Z : List Nat) (hZ : Lanes Z) (w : World) :
    Calls Tryd.prog 104 #[.agg (vals Z).toArray] w fun e w' => e = .returned (.agg (vals (theta Z)).toArray) ∧ Below w.heap.size w w' := by
  have HZL := hide hZ
  have zlen := hZ.1
  clear hZ
  generalize hM : theta Z = M
  have HM := hide hM
  clear hM
  generalize hV : vals Z = V
  have HV := hide hV
  clear hV
  go_enter Tryd.func104, Tryd.ntmps104
  go_upto_region 2 with fail
  obtain ⟨w1, hw1⟩ : ∃ w1, w1 = ((w.alloc (.cells V.toArray 72)).alloc (.cells (vals (List.replicate 25 0)).toArray 72)).alloc (.cells (vals (List.replicate 5 0)).toArray 110) := ⟨_, rfl⟩
  have e1 : ((w.alloc (.cells V.toArray 72)).alloc (.cells #[.int .u64 0, .int .u64 0, .int .u64 0, .int .u64 0, .int .u64 0, .int .u64 0, .int .u64 0, .int .u64 0, .int .u64 0, .int .u64 0, .int .u64 0, .int .u64 0, .int .u64 0, .int .u64 0, .int .u64 0, .int .u64 0, .int .u64 0, .int .u64 0, .int .u64 0, .int .u64 0, .int .u64 0, .int .u64 0, .int .u64 0, .int .u64 0, .int .u64 0] 72)).alloc (.cells #[.int .u64 0, .int .u64 0, .int .u64 0, .int .u64 0, .int .u64 0] 110) = w1 := by rw [hw1]; rfl
  rw [e1]
  have G1 : Below w.heap.size w w1 := by rw [hw1]; exact ((below_alloc w _).alloc (by simp) _).alloc (by simp; omega) _
  have S1 : UBlk w1 w.heap.size Z 72 := by
    rw [hw1, ← unhide HV]
    exact ((UBlk.new w Z _).next _).next _
  have R1 : UBlk w1 (w.heap.size + 1) (List.replicate 25 0) 72 := by
    have := (UBlk.new (w.alloc (.cells V.toArray 72)) (List.replicate 25 0) 72).next (.cells (vals (List.replicate 5 0)).toArray 110)
    rw [hw1]
    simpa using this
  have C1 : UBlk w1 (w.heap.size + 1 + 1) (colAt Z 0) 110 := by
    have := UBlk.new ((w.alloc (.cells V.toArray 72)).alloc (.cells (vals (List.replicate 25 0)).toArray 72)) (List.replicate 5 0) 110
    have hs : ((w.alloc (.cells V.toArray 72)).alloc (.cells (vals (List.replicate 25 0)).toArray 72)).heap.size = w.heap.size + 1 + 1 := by simp
    rw [hs, ← hw1] at this
    exact this
  obtain ⟨q, hq⟩ : ∃ q, q = w.heap.size + 1 + 1 := ⟨_, rfl⟩
  rw [← hq] at C1
  try rw [← hq]
  have D1 : w.heap.size + 1 < q := by omega
  have HQ := hide hq
  have HLD := hide (load25 S1 zlen)
  rw [unhide HV] at HLD
  have HS := hide S1
  have HR := hide R1
  have HC := hide C1
  have HG := hide G1
  clear hq e1 hw1 S1 R1 C1 G1
  go_upto_block 0 with (refine wpList_load_eq rfl 72 _ rfl _ _ rfl (unhide HLD) ?_)
  go_cut [10] (fun c wr => UBlk wr w.heap.size Z 72 ∧ UBlk wr (w.heap.size + 1) (List.replicate 25 0) 72 ∧ UBlk wr q (colAt Z 25) 110 ∧ Below w.heap.size w wr)
  case first =>
    go_wp2_with fail
    go_loopw [10] (fun c wr => ∃ k : Nat, k ≤ 25 ∧ c = .int .i64 k ∧ UBlk wr w.heap.size Z 72 ∧ UBlk wr (w.heap.size + 1) (List.replicate 25 0) 72 ∧ UBlk wr q (colAt Z k) 110 ∧ Below w.heap.size w wr)
      (fun c _ => 25 - (intOf c).toNat)
    case atStart => exact ⟨0, by omega, rfl, unhide HS, unhide HR, unhide HC, unhide HG⟩
    case round =>
      obtain ⟨k, hk, rfl, hS, hR, hC, hG⟩ := hrel
      clear HS HR HC HG
      by_cases hlt : k < 25
      · have hdk : decide ((k : Int) < 25) = true := decide_eq_true (by omega)
        obtain ⟨j, hj⟩ : ∃ j, j = k % 5 := ⟨_, rfl⟩
        have hcl := colAt_props Z (unhide HZL).2 k
        have c0 := hC.cell j (by omega)
        have f0 := hC.free j
        have hvk : V.toArray[k]? = some (.int .u64 (Z.getD k 0 : Int)) := by
          rw [← unhide HV, getDn_at Z k (by omega)]
          simp [vals, zlen, hlt]
        have hidx : ∀ W, (Instr.index 72 (.agg V.toArray) (.int .i64 (k : Int))).run Tryd.prog W = .ok (.int .u64 (Z.getD k 0 : Int)) W := by rw [← unhide HV]; exact index25 Z zlen k hlt
        have hvk2 : V[k]? = some (.int .u64 (Z.getD k 0 : Int)) := by simpa using hvk
        have hVl : V.length = 25 := by rw [← unhide HV, vals_length, zlen]
        have hcg : (colAt Z k).getD j 0 < 18446744073709551616 := getD_lt hcl.2 (by decide) _
        have hzg : Z.getD k 0 < 18446744073709551616 := getD_lt (unhide HZL).2 (by decide) _
        have hsucc := colAt_succ Z k j hj
        generalize (colAt Z k).getD j 0 = x at c0 hcg hsucc
        generalize Z.getD k 0 = y at hvk hvk2 hidx hzg hsucc
        have hx := u64_xor_nat x y hcg hzg
        have HC5 := hide (hC.set j (x ^^^ y))
        rw [← hsucc] at HC5
        have HS5 := hide (hS.other (b' := q) j (.int .u64 ((x ^^^ y : Nat) : Int)) (by omega))
        have HR5 := hide (hR.other (b' := q) j (.int .u64 ((x ^^^ y : Nat) : Int)) (by omega))
        have HG5 := hide (hG.setCell (p := ⟨q, j, none⟩) (by show w.heap.size ≤ q; omega) (.int .u64 ((x ^^^ y : Nat) : Int)))
        have e5 : (k : Int).tmod 5 = (j : Int) := by rw [Int.tmod_eq_emod_of_nonneg (by omega)]; omega
        have e5' : (k : Int) % 5 = (j : Int) := by omega
        have i0 : (j : Int) < 5 := by omega
        have i1 : (k : Int) < 25 := by omega
        clear hS hR hC hG hsucc hj hcl
        go_wp2_with fail
        go_roundw
        case rel => exact ⟨k + 1, by omega, by go_num, unhide HS5, unhide HR5, unhide HC5, unhide HG5⟩
        case measure => simp [intOf]; omega
      · obtain rfl : k = 25 := by omega
        have hdk : decide (((25 : Nat) : Int) < 25) = false := rfl
        go_wp2_with fail
        go_meet
        exact ⟨hS, hR, hC, hG⟩
  case rest =>
    clear HS HR HC HG HLD
    obtain ⟨hS, hR, hC, hG⟩ := hcut
    have hS0 : UBlk wc w.heap.size (thAt Z (0 * 5)) 72 := by rw [Nat.zero_mul, thAt_zero Z zlen]; exact hS
    have hcp := colAt_props Z (unhide HZL).2 25
    generalize hcc : colAt Z 25 = C at hC hcp
    have HCC := hide hcc
    have HCP := hide hcp
    have clen := hcp.1
    have HS := hide hS0
    have HR := hide hR
    have HC := hide hC
    have HG := hide hG
    clear hS hR hC hG hS0 hcc hcp
    go_wp2_with fail
    go_loopw [22] (fun c wr => ∃ X : Nat, X ≤ 5 ∧ c = .int .i64 X ∧ UBlk wr w.heap.size (thAt Z (X * 5)) 72 ∧ UBlk wr (w.heap.size + 1) (List.replicate 25 0) 72 ∧ UBlk wr q C 110 ∧ Below w.heap.size w wr)
      (fun c _ => 5 - (intOf c).toNat)
    case atStart => exact ⟨0, by omega, rfl, unhide HS, unhide HR, unhide HC, unhide HG⟩
    case round =>
      obtain ⟨X, hX, rfl, hS, hR, hC, hG⟩ := hrel
      clear HS HR HC HG
      by_cases hlt : X < 5
      · have hdk : decide ((X : Int) < 5) = true := decide_eq_true (by omega)
        obtain ⟨a4, h4⟩ : ∃ a4, a4 = (X + 4) % 5 := ⟨_, rfl⟩
        obtain ⟨a1, h1⟩ : ∃ a1, a1 = (X + 1) % 5 := ⟨_, rfl⟩
        have hd : dOf C X = C.getD a4 0 ^^^ rotL (C.getD a1 0) 1 := by rw [h4, h1]; rfl
        have c4 := hC.cell a4 (by omega)
        have c1 := hC.cell a1 (by omega)
        have l4 : C.getD a4 0 < 18446744073709551616 := getD_lt (unhide HCP).2 (by decide) _
        have l1 : C.getD a1 0 < 18446744073709551616 := getD_lt (unhide HCP).2 (by decide) _
        generalize C.getD a4 0 = v4 at c4 l4 hd
        generalize C.getD a1 0 = v1 at c1 l1 hd
        have HRT := hide (rotl_any v1 1 l1 (by omega))
        have hx := u64_xor_nat v4 (rotL v1 1) l4 (rot_lt _ 1 l1 (by omega))
        rw [← hd] at hx
        have hdl := dOf_lt (unhide HCP).2 X
        have e4 : ((X : Int) + 4).tmod 5 = (a4 : Int) := by rw [Int.tmod_eq_emod_of_nonneg (by omega)]; omega
        have e1 : ((X : Int) + 1).tmod 5 = (a1 : Int) := by rw [Int.tmod_eq_emod_of_nonneg (by omega)]; omega
        have e4' : ((X : Int) + 4) % 5 = (a4 : Int) := by omega
        have e1' : ((X : Int) + 1) % 5 = (a1 : Int) := by omega
        have q4 : IntKind.i64.wrap ((X : Int) + 4) = (X : Int) + 4 := by rw [IntKind.wrap_i64]; omega
        have q1 : IntKind.i64.wrap ((X : Int) + 1) = (X : Int) + 1 := by rw [IntKind.wrap_i64]; omega
        have i4 : (a4 : Int) < 5 := by omega
        have i1 : (a1 : Int) < 5 := by omega
        have HS := hide hS
        have HR := hide hR
        have HC := hide hC
        have HG := hide hG
        have HHX := hide hx
        clear hS hR hC hG h4 h1 hd hx
        go_wp2_with fail
        go_cut [7] (fun v wx => v = .int .u64 (dOf C X : Int) ∧ wx = wr.drew)
        case first =>
          go_region_with (go_at_call 111; refine ((unhide HRT) _).mono ?_; rintro e w' ⟨rfl, rfl⟩)
          all_goals
            (try rw [unhide HHX])
            go_wp2_with fail
            go_meet
            exact ⟨rfl, rfl⟩
        case rest =>
          obtain ⟨rfl, rfl⟩ := hcut
          generalize hD : dOf C X = D at hdl
          have HD := hide hD
          clear hD c4 c1 q4 q1 e4 e1 e4' e1' i4 i1 HRT HHX
          have HS' : Hid (UBlk wr.drew w.heap.size (thAt Z (X * 5 + 0)) 72) := unhide HS
          have HR' : Hid (UBlk wr.drew (w.heap.size + 1) (List.replicate 25 0) 72) := unhide HR
          have HC' : Hid (UBlk wr.drew q C 110) := unhide HC
          have HG' := hide (unhide HG).drew
          clear HS HR HC HG
          go_wp2_with fail
          go_loopw [8] (fun c wr => ∃ r : Nat, r ≤ 5 ∧ c = .int .i64 ((5 * r : Nat) : Int) ∧ UBlk wr w.heap.size (thAt Z (X * 5 + r)) 72 ∧ UBlk wr (w.heap.size + 1) (List.replicate 25 0) 72 ∧ UBlk wr q C 110 ∧ Below w.heap.size w wr)
            (fun c _ => 25 - (intOf c).toNat)
          case atStart => exact ⟨0, by omega, rfl, unhide HS', unhide HR', unhide HC', unhide HG'⟩
          case round =>
            obtain ⟨r, hr, rfl, hS, hR, hC, hG⟩ := hrel
            clear HS' HR' HC' HG'
            obtain ⟨row, hrow⟩ : ∃ row, row = 5 * r := ⟨_, rfl⟩
            rw [← hrow]
            by_cases hr5 : r < 5
            · have hdr : decide ((row : Int) < 25) = true := decide_eq_true (by omega)
              obtain ⟨k, hk⟩ : ∃ k, k = 5 * r + X := ⟨_, rfl⟩
              have c0 := hS.cell k (by rw [thAt_length]; omega)
              have f0 := hS.free k
              have hold := thAt_at Z X r hlt hr5
              have hstep := thAt_step Z X r hlt hr5
              rw [unhide HCC, unhide HD] at hstep
              rw [← hk] at hold hstep
              rw [hold] at c0
              have hzg : Z.getD k 0 < 18446744073709551616 := getD_lt (unhide HZL).2 (by decide) _
              generalize Z.getD k 0 = y at c0 hstep hzg
              have hx := u64_xor_nat y D hzg hdl
              have HS5 := hide (hS.set k (y ^^^ D))
              rw [hstep] at HS5
              have HR5 := hide (hR.other (b' := w.heap.size) k (.int .u64 ((y ^^^ D : Nat) : Int)) (by omega))
              have HC5 := hide (hC.other (b' := w.heap.size) k (.int .u64 ((y ^^^ D : Nat) : Int)) (by omega))
              have HG5 := hide (hG.setCell (p := ⟨w.heap.size, k, none⟩) (Nat.le_refl _) (.int .u64 ((y ^^^ D : Nat) : Int)))
              have ek : (row : Int) + (X : Int) = (k : Int) := by omega
              have i0 : (k : Int) < 25 := by omega
              have hr25 : (row : Int) < 25 := by omega
              have hnx : (row : Int) + 5 = ((5 * (r + 1) : Nat) : Int) := by omega
              have HNX := hide hnx
              have HRW := hide hrow
              clear hS hR hC hG hstep hold hk hnx hrow
              go_wp2_with fail
              go_roundw
              case rel => exact ⟨r + 1, by omega, by rw [← unhide HNX], unhide HS5, unhide HR5, unhide HC5, unhide HG5⟩
              case measure => simp [intOf]; omega
            · obtain rfl : r = 5 := by omega
              obtain rfl : row = 25 := hrow
              have hdr : decide (((25 : Nat) : Int) < 25) = false := rfl
              have hS' : UBlk wr w.heap.size (thAt Z ((X + 1) * 5)) 72 := by rw [Nat.add_mul, Nat.one_mul]; exact hS
              go_wp2_with fail
              go_roundw
              case rel => exact ⟨X + 1, by omega, by go_num, hS', hR, hC, hG⟩
              case measure => simp [intOf]; omega
      · obtain rfl : X = 5 := by omega
        have hdk : decide (((5 : Nat) : Int) < 5) = false := rfl
        have hS' : UBlk wr w.heap.size M 72 := by
          have := hS
          rw [show 5 * 5 = 25 from rfl, thAt_all, unhide HM] at this
          exact this
        have mlen : M.length = 25 := by rw [← unhide HM]; exact (theta_lanes (unhide HZL)).1
        have HLD := hide (load25 hS' mlen)
        obtain ⟨w3, hst, R3, K3, _⟩ := store25 hR (by simp) mlen
        have HST := hide hst
        have HR3 := hide R3
        have HG3 := hide (hG.trans (K3 w.heap.size (by omega)))
        clear hS hR hC hG hS' hst R3 K3
        go_wp2_with (first | refine wpList_load_eq rfl 72 _ rfl _ _ rfl (unhide HLD) ?_ | refine wpList_store_eq rfl 72 _ _ rfl _ _ rfl rfl w3 (unhide HST) ?_)
        exact bodyPost_ret (results_cell_row rfl _ _ (w.heap.size + 1) 72 _ (0, 0) _ rfl (unhide HR3) Tryd.underlying72 rfl (by rw [List.size_toArray, vals_length, mlen]; kernel_rfl)) rfl ⟨rfl, unhide HG3⟩

end Go.Proofs.YtbncoiljklagkaaDoor

/- What is proved here: the program's mixing of a state, all its rounds, told by lanes; the two variables read as the program's text lays them. -/
namespace Go.Proofs.YtbncoiljklagkaaDoor
open Go.RowKit
set_option linter.unusedVariables false
attribute [local go_sem ↓] Go.wp_at_zero Go.wp_at_succ

theorem index24 (k : Nat) (hk : k < 24) (w : World) : (Instr.index 99 (.agg (vals rcs).toArray) (.int .i64 (k : Int))).run Tryd.prog w = .ok (.int .u64 (rcs.getD k 0 : Int)) w := by
  have hz : rcs.length = 24 := rfl
  have hn : (0 : Int) ≤ (k : Int) ∧ (k : Int) < ((24 : Nat) : Int) := by omega
  have hs : (sizeOf 70).run Tryd.prog w = .ok 1 w := by kernel_rfl
  have hv : (vals rcs)[k]? = some (.int .u64 (rcs.getD k 0 : Int)) := by
    rw [getDn_at rcs k (by omega)]
    simp [vals, hz, hk]
  generalize rcs.getD k 0 = c at hv ⊢
  generalize vals rcs = R at hv ⊢
  simp [Instr.index, run_underlying Tryd.underlying99, asIntOf, hn, go_sem, hs, hv]
  intro h
  omega

theorem load24 {w : World} (h : Laid w) : (Instr.loadAt 99 (.pointer (some ⟨0, 0, none⟩))).run Tryd.prog w = .ok (.agg (vals rcs).toArray) w := by
  refine run_loadAt_mid (P := Tryd.prog) w 0 0 99 (vals rcs) _ ?_ Tryd.underlying99 rfl (by rw [vals_length]; kernel_rfl)
  intro j v hj
  have hjl : j < 24 := by
    have := (List.getElem?_eq_some_iff.1 hj).1
    rw [vals_length] at this
    exact this
  rw [Nat.zero_add, h.2.1 j hjl, ← hj, getDn_at rcs j hjl]
  have hz : rcs.length = 24 := rfl
  simp only [vals, List.getElem?_map, List.getElem?_eq_getElem (show j < rcs.length from hjl), Option.map_some]
  rfl

set_option maxRecDepth 100000 in
set_option maxHeartbeats 1000000 in
theorem mix_any (Z : List Nat) (hZ : Lanes Z) (w : World) (hv : Laid w) :
    Calls Tryd.prog 90 #[.agg (vals Z).toArray] w fun e w' => e = .returned (.agg (vals (mixAt Z 24)).toArray) ∧ Below w.heap.size w w' := by
  have HZL := hide hZ
  have HVV := hide hv
  have zlen := hZ.1
  have w2s := hv.1
  clear hZ hv
  generalize hM : mixAt Z 24 = M
  have HM := hide hM
  clear hM
  generalize hV : vals Z = V
  have HV := hide hV
  clear hV
  go_enter Tryd.func90, Tryd.ntmps90
  go_upto_region 1 with fail
  obtain ⟨w1, hw1⟩ : ∃ w1, w1 = (w.alloc (.cells V.toArray 72)).alloc (.cells (vals (List.replicate 25 0)).toArray 72) := ⟨_, rfl⟩
  have e1 : (w.alloc (.cells V.toArray 72)).alloc (.cells #[.int .u64 0, .int .u64 0, .int .u64 0, .int .u64 0, .int .u64 0, .int .u64 0, .int .u64 0, .int .u64 0, .int .u64 0, .int .u64 0, .int .u64 0, .int .u64 0, .int .u64 0, .int .u64 0, .int .u64 0, .int .u64 0, .int .u64 0, .int .u64 0, .int .u64 0, .int .u64 0, .int .u64 0, .int .u64 0, .int .u64 0, .int .u64 0, .int .u64 0] 72) = w1 := by rw [hw1]; rfl
  rw [e1]
  have G1 : Below w.heap.size w w1 := by rw [hw1]; exact (below_alloc w _).alloc (by simp) _
  have S1 : UBlk w1 w.heap.size (mixAt Z 0) 72 := by
    show UBlk w1 w.heap.size Z 72
    rw [hw1, ← unhide HV]
    exact (UBlk.new w Z _).next _
  have R1 : UBlk w1 (w.heap.size + 1) (List.replicate 25 0) 72 := by
    have := UBlk.new (w.alloc (.cells V.toArray 72)) (List.replicate 25 0) 72
    rw [hw1]
    simpa using this
  have HLR := hide (load24 ((unhide HVV).below G1 (Nat.le_refl _)))
  have HIX := hide index24
  generalize vals rcs = RC at HLR HIX
  have HS := hide S1
  have HR := hide R1
  have HG := hide G1
  clear e1 hw1 S1 R1 G1
  go_wp2_with (refine wpList_load_eq rfl 99 _ rfl _ _ rfl (unhide HLR) ?_)
  clear HLR
  go_loopw [6] (fun c wr => ∃ k : Nat, k ≤ 24 ∧ c = .int .i64 k ∧ UBlk wr w.heap.size (mixAt Z k) 72 ∧ UBlk wr (w.heap.size + 1) (List.replicate 25 0) 72 ∧ Below w.heap.size w wr)
    (fun c _ => 24 - (intOf c).toNat)
  case atStart => exact ⟨0, by omega, rfl, unhide HS, unhide HR, unhide HG⟩
  case round =>
    obtain ⟨k, hk, rfl, hS, hR, hG⟩ := hrel
    clear HS HR HG
    have hsl := mixAt_lanes (unhide HZL) k
    by_cases hlt : k < 24
    · have hdk : decide ((k : Int) < 24) = true := decide_eq_true (by omega)
      have hidx := (unhide HIX) k hlt
      have hcl := rcs_lt k
      have hsucc := mixAt_succ Z k
      generalize mixAt Z k = S at hS hsl hsucc
      generalize rcs.getD k 0 = c at hidx hcl hsucc
      have HRF := hide (show roundF S = chi (bAt (theta S) 25) from rfl)
      have HTH := hide (theta_any S hsl)
      have htl := theta_lanes hsl
      have hrl := roundF_lanes hsl
      have hbl := bAt_lanes htl 25
      have HMV := hide (fun W hW => move_any (theta S) htl W hW)
      have HCR := hide (fun W => cross_any (bAt (theta S) 25) hbl W)
      have HLD := hide (load25 hS hsl.1)
      rw [unhide HRF] at hrl
      have hsucc2 : mixAt Z (k + 1) = (chi (bAt (theta S) 25)).set 0 ((chi (bAt (theta S) 25)).getD 0 0 ^^^ c) := by rw [hsucc]; rfl
      clear HRF hsucc
      generalize chi (bAt (theta S) 25) = CS at HCR hrl hsucc2
      generalize bAt (theta S) 25 = BS at HMV HCR hbl
      generalize theta S = TS at HTH HMV htl
      have S6len := hsl.1
      have HSS := hide hS
      have HRR := hide hR
      have HGG := hide hG
      have HS2 := hide hsucc2
      have HHL := hide hrl
      clear hS hR hG hsucc2 hrl htl hbl hsl
      go_wp2_with (refine wpList_load_eq rfl 72 _ rfl _ _ rfl (unhide HLD) ?_)
      refine ((unhide HTH) _).mono ?_
      rintro e w4 ⟨rfl, b4⟩
      have G4 := (unhide HGG).trans (b4.mono (unhide HGG).size)
      have HV4 := hide ((unhide HVV).below G4 (Nat.le_refl _))
      go_wp2_with fail
      refine ((unhide HMV) _ (unhide HV4)).mono ?_
      rintro e w5 ⟨rfl, b5⟩
      go_wp2_with fail
      refine ((unhide HCR) _).mono ?_
      rintro e w6 ⟨rfl, b6⟩
      have b456 := (b4.trans (b5.mono b4.size)).trans (b6.mono (b4.trans (b5.mono b4.size)).size)
      have S6 := (unhide HSS).below b456 (unhide HSS).lt
      have R6 := (unhide HRR).below b456 (unhide HRR).lt
      have G6 := (unhide HGG).trans (b456.mono (unhide HGG).size)
      obtain ⟨w7, hst, S7, K7, O7⟩ := store25 S6 S6len (unhide HHL).1
      have R7 : UBlk w7 (w.heap.size + 1) (List.replicate 25 0) 72 := by
        unfold UBlk
        rw [O7 _ (by omega)]
        exact R6
      have G7 := G6.trans (K7 w.heap.size (Nat.le_refl _))
      have c0 := S7.cell 0 (by rw [(unhide HHL).1]; omega)
      have f0 := S7.free 0
      have hx := u64_xor_nat (CS.getD 0 0) c (getD_lt (unhide HHL).2 (by decide) _) hcl
      have HS8 := hide (S7.set 0 (CS.getD 0 0 ^^^ c))
      rw [← unhide HS2] at HS8
      have HR8 := hide (R7.other (b' := w.heap.size) 0 (.int .u64 ((CS.getD 0 0 ^^^ c : Nat) : Int)) (by omega))
      have HG8 := hide (G7.setCell (p := ⟨w.heap.size, 0, none⟩) (Nat.le_refl _) (.int .u64 ((CS.getD 0 0 ^^^ c : Nat) : Int)))
      generalize CS.getD 0 0 = g at c0 hx HS8 HR8 HG8
      have HST := hide hst
      clear b4 b5 b6 b456 S6 R6 G6 S7 K7 O7 R7 G7 G4 hst HSS HRR HGG HS2 HTH HMV HCR HLD HV4
      go_wp2_with (refine wpList_store_eq rfl 72 _ _ rfl _ _ rfl rfl w7 (unhide HST) ?_)
      go_roundw
      case rel => exact ⟨k + 1, by omega, by go_num, unhide HS8, unhide HR8, unhide HG8⟩
      case measure => simp [intOf]; omega
    · obtain rfl : k = 24 := by omega
      have hdk : decide (((24 : Nat) : Int) < 24) = false := rfl
      have mlen := hsl.1
      rw [unhide HM] at hS mlen
      have HLD := hide (load25 hS mlen)
      obtain ⟨w3, hst, R3, K3, _⟩ := store25 hR (by simp) mlen
      have HST := hide hst
      have HR3 := hide R3
      have HG3 := hide (hG.trans (K3 w.heap.size (by omega)))
      clear hS hR hG hst R3 K3 hsl
      go_wp2_with (first | refine wpList_load_eq rfl 72 _ rfl _ _ rfl (unhide HLD) ?_ | refine wpList_store_eq rfl 72 _ _ rfl _ _ rfl rfl w3 (unhide HST) ?_)
      exact bodyPost_ret (results_cell_row rfl _ _ (w.heap.size + 1) 72 _ (0, 0) _ rfl (unhide HR3) Tryd.underlying72 rfl (by rw [List.size_toArray, vals_length, mlen]; kernel_rfl)) rfl ⟨rfl, unhide HG3⟩

end Go.Proofs.YtbncoiljklagkaaDoor

/- What is proved here: what the program's laneAt and soakBlock answer, told by lanes. -/
namespace Go.Proofs.YtbncoiljklagkaaDoor
open Go.RowKit
set_option linter.unusedVariables false
attribute [local go_sem ↓] Go.wp_at_zero Go.wp_at_succ

theorem or_low (b : Nat → Nat) (hb : ∀ i, b i < 256) (k : Nat) (hk : k < 8) : bits .or .u64 (lowB b k : Int) ((b k * 2 ^ (8 * k) : Nat) : Int) = (lowB b (k + 1) : Int) := by
  have h1 := lowB_lt b hb k
  have h2 := lowB_lt b hb (k + 1)
  have h3 : 2 ^ (8 * (k + 1)) ≤ 2 ^ 64 := Nat.pow_le_pow_right (by decide) (by omega)
  have h4 : lowB b (k + 1) = lowB b k + b k * 2 ^ (8 * k) := rfl
  have e := or_join (b k * 2 ^ (8 * k)) (lowB b k) (8 * k) (Nat.mul_mod_left _ _) h1 (by omega) (by omega)
  rw [bits_or_u64_nat _ _ (by omega) (by omega)] at e
  rw [bits_or_u64_nat _ _ (by omega) (by omega), Nat.or_comm, e, h4, Nat.add_comm]

set_option maxHeartbeats 1000000 in
theorem laneAt_any (b off n cap p : Nat) (bs : List Int) (w : World) (h : BRow w (some ⟨b, off, none⟩) n bs) (hn : n ≤ 1048576) (hp : p + 8 ≤ n) :
    Calls Tryd.prog 89 #[.slice (some ⟨b, off, none⟩) n cap, .int .i64 (p : Int)] w fun e w' => e = .returned (.int .u64 (laneB bs p : Int)) ∧ w' = w := by
  have HX := hide h
  have HB := hide (byteN_lt h.2.1 p)
  have HC := hide (byteN_cast h.2.1 p)
  have HLB := hide (show laneB bs p = lowB (byteN bs p) 8 from rfl)
  generalize laneB bs p = LB at HLB ⊢
  generalize hf : byteN bs p = f at HB HC HLB
  clear h hf
  go_enter Tryd.func89, Tryd.ntmps89
  go_wp2_with fail
  go_loop [5, 7] (fun l i => ∃ k : Nat, k ≤ 8 ∧ i = .int .i64 k ∧ l = .int .u64 (lowB f k : Int)) (fun _ i => 8 - (intOf i).toNat)
  case atStart => exact ⟨0, by omega, rfl, rfl⟩
  case round =>
    obtain ⟨k, hk, rfl, rfl⟩ := hrel
    by_cases hlt : k < 8
    · have hcx : w.cell? ⟨b, off + (p + k), none⟩ = some (.int .u8 (bs.getD (p + k) 0)) := by
        have := (unhide HX).2.2.2 _ rfl (p + k) (by omega)
        rwa [add_none] at this
      rw [← (unhide HC) k] at hcx
      have HO := hide (or_low f (unhide HB) k hlt)
      have hpw : f k * 2 ^ (8 * k) < 18446744073709551616 := by
        have h2 := lowB_lt f (unhide HB) (k + 1)
        have h3 : 2 ^ (8 * (k + 1)) ≤ 2 ^ 64 := Nat.pow_le_pow_right (by decide) (by omega)
        have h4 : lowB f (k + 1) = lowB f k + f k * 2 ^ (8 * k) := rfl
        omega
      have HPW := hide hpw
      clear hpw
      have hx := (unhide HB) k
      generalize f k = x at hcx HO hx HPW
      obtain ⟨q, hq⟩ : ∃ q, q = p + k := ⟨_, rfl⟩
      rw [← hq] at hcx
      obtain ⟨s, hs⟩ : ∃ s, s = 8 * k := ⟨_, rfl⟩
      rw [← hs] at HO HPW
      have m0 : (p : Int) + (k : Int) = (q : Int) := by omega
      have m1 : 8 * (k : Int) = (s : Int) := by omega
      have y0 : IntKind.i64.wrap (q : Int) = (q : Int) := i64_fits _ (by omega) (by omega)
      have y1 : IntKind.i64.wrap (s : Int) = (s : Int) := i64_fits _ (by omega) (by omega)
      have j0 : (0 : Int) ≤ (q : Int) := by omega
      have j1 : (q : Int) < (n : Int) := by omega
      have j2 : (0 : Int) ≤ (s : Int) := by omega
      have hdk : decide ((k : Int) < 8) = true := decide_eq_true (by omega)
      have hs64 : s < 64 := by omega
      clear hq hs
      go_wp2_with fail
      refine ⟨⟨k + 1, by omega, by go_num, ?_⟩, by simp [intOf]; omega⟩
      rw [wraps_u64 _ (Int.mul_nonneg (by omega) (by exact_mod_cast Nat.zero_le (2 ^ s))) (by exact_mod_cast (unhide HPW)), ← unhide HO]
      simp
    · obtain rfl : k = 8 := by omega
      have hdk : decide (((8 : Nat) : Int) < 8) = false := rfl
      go_wp2_with fail
      go_ret
      exact ⟨by rw [unhide HLB]; rfl, rfl⟩

set_option maxRecDepth 100000 in
set_option maxHeartbeats 2000000 in
theorem soak_any (Z : List Nat) (hZ : Lanes Z) (b off n cap : Nat) (bs : List Int) (w : World) (h : BRow w (some ⟨b, off, none⟩) n bs) (hn : n ≤ 1048576) (hn2 : 136 ≤ n) (hv : Laid w) :
    Calls Tryd.prog 65 #[.agg (vals Z).toArray, .slice (some ⟨b, off, none⟩) n cap] w fun e w' => e = .returned (.agg (vals (mixAt (soakAt Z bs 0 17) 24)).toArray) ∧ Below w.heap.size w w' := by
  have HLA := hide (fun (p : Nat) (hp : p + 8 ≤ n) (W : World) (hW : Below w.heap.size w W) => laneAt_any b off n cap p bs W (h.below hW (Nat.le_refl _)) hn hp)
  have HLB := hide (laneB_lt h.2.1)
  have HSL := hide (soakAt_lanes hZ h.2.1 0)
  have HSS := hide (fun i => show soakAt Z bs 0 (i + 1) = (soakAt Z bs 0 i).set i ((soakAt Z bs 0 i).getD i 0 ^^^ laneB bs (0 + i * 8)) from rfl)
  have HMX := hide (fun W hW => mix_any (soakAt Z bs 0 17) ((unhide HSL) 17) W hW)
  have HML := hide (mixAt_lanes ((unhide HSL) 17) 24)
  have HVV := hide hv
  have h0 : soakAt Z bs 0 0 = Z := rfl
  have H0 := hide h0
  clear h hv hZ h0
  generalize mixAt (soakAt Z bs 0 17) 24 = M at HMX HML
  generalize soakAt Z bs 0 = S at HSL HSS HMX H0
  generalize hV : vals Z = V
  have HV := hide hV
  clear hV
  go_enter Tryd.func65, Tryd.ntmps65
  go_upto_region 1 with fail
  obtain ⟨w1, hw1⟩ : ∃ w1, w1 = (w.alloc (.cells V.toArray 72)).alloc (.cells (vals (List.replicate 25 0)).toArray 72) := ⟨_, rfl⟩
  have e1 : (w.alloc (.cells V.toArray 72)).alloc (.cells #[.int .u64 0, .int .u64 0, .int .u64 0, .int .u64 0, .int .u64 0, .int .u64 0, .int .u64 0, .int .u64 0, .int .u64 0, .int .u64 0, .int .u64 0, .int .u64 0, .int .u64 0, .int .u64 0, .int .u64 0, .int .u64 0, .int .u64 0, .int .u64 0, .int .u64 0, .int .u64 0, .int .u64 0, .int .u64 0, .int .u64 0, .int .u64 0, .int .u64 0] 72) = w1 := by rw [hw1]; rfl
  rw [e1]
  have G1 : Below w.heap.size w w1 := by rw [hw1]; exact (below_alloc w _).alloc (by simp) _
  have S1 : UBlk w1 w.heap.size (S 0) 72 := by
    rw [unhide H0, hw1, ← unhide HV]
    exact (UBlk.new w Z _).next _
  have R1 : UBlk w1 (w.heap.size + 1) (List.replicate 25 0) 72 := by
    have := UBlk.new (w.alloc (.cells V.toArray 72)) (List.replicate 25 0) 72
    rw [hw1]
    simpa using this
  have HS := hide S1
  have HR := hide R1
  have HG := hide G1
  clear e1 hw1 S1 R1 G1
  go_wp2_with fail
  go_loopw [6] (fun c wr => ∃ k : Nat, k ≤ 17 ∧ c = .int .i64 k ∧ UBlk wr w.heap.size (S k) 72 ∧ UBlk wr (w.heap.size + 1) (List.replicate 25 0) 72 ∧ Below w.heap.size w wr)
    (fun c _ => 17 - (intOf c).toNat)
  case atStart => exact ⟨0, by omega, rfl, unhide HS, unhide HR, unhide HG⟩
  case round =>
    obtain ⟨k, hk, rfl, hS, hR, hG⟩ := hrel
    clear HS HR HG
    have hsl := (unhide HSL) k
    by_cases hlt : k < 17
    · have hdk : decide ((k : Int) < 17) = true := decide_eq_true (by omega)
      have hsucc := (unhide HSS) k
      rw [Nat.zero_add] at hsucc
      have hz64 : (S k).getD k 0 < 18446744073709551616 := getD_lt hsl.2 (by decide) _
      obtain ⟨q, hq⟩ : ∃ q, q = k * 8 := ⟨_, rfl⟩
      rw [← hq] at hsucc
      have HL8 := hide ((unhide HLA) q (by omega))
      have hl64 := (unhide HLB) q
      have n0 := UBlk.cell hS k (by rw [hsl.1]; omega)
      have f0 := UBlk.free hS k
      generalize laneB bs q = l at hsucc HL8 hl64
      have HS3 := hide (UBlk.set hS k ((S k).getD k 0 ^^^ l))
      rw [← hsucc] at HS3
      generalize (S k).getD k 0 = z at n0 hz64 HS3
      have hx := u64_xor_nat z l hz64 hl64
      have HR3 := hide (hR.other (b' := w.heap.size) k (.int .u64 ((z ^^^ l : Nat) : Int)) (by omega))
      have HG3 := hide (hG.setCell (p := ⟨w.heap.size, k, none⟩) (Nat.le_refl _) (.int .u64 ((z ^^^ l : Nat) : Int)))
      have HGG := hide hG
      have m0 : (k : Int) * 8 = (q : Int) := by omega
      have y0 : IntKind.i64.wrap (q : Int) = (q : Int) := i64_fits _ (by omega) (by omega)
      have ik1 : (0 : Int) ≤ (k : Int) := by omega
      have ik2 : (k : Int) < 25 := by omega
      clear hq hS hR hG hsl hsucc hz64 hl64
      go_upto_region 4 with fail
      go_region_with (first | (go_at_call 89; refine ((unhide HL8) _ (by first | exact unhide HGG | exact (unhide HGG).drew)).mono ?_; rintro e w6 ⟨rfl, rfl⟩))
      all_goals
        go_wp2_with fail
        go_roundw
        case rel => exact ⟨k + 1, by omega, by go_num, unhide HS3, unhide HR3, (unhide HG3).drew⟩
        case measure => simp [intOf]; omega
    · obtain rfl : k = 17 := by omega
      have hdk : decide (((17 : Nat) : Int) < 17) = false := rfl
      have HLD := hide (load25 hS hsl.1)
      have HMY := hide ((unhide HMX) wr ((unhide HVV).below hG (Nat.le_refl _)))
      have HRR := hide hR
      have HGG := hide hG
      have mlen := (unhide HML).1
      clear hS hR hG hsl
      go_wp2_with (refine wpList_load_eq rfl 72 _ rfl _ _ rfl (unhide HLD) ?_)
      refine (unhide HMY).mono ?_
      rintro e w4 ⟨rfl, b4⟩
      obtain ⟨w3, hst, R3, K3, _⟩ := store25 ((unhide HRR).below b4 (unhide HRR).lt) (by simp) mlen
      have HST := hide hst
      have HR3 := hide R3
      have G4 := (unhide HGG).trans (b4.mono (unhide HGG).size)
      have HG3 := hide (G4.trans (K3 w.heap.size (by omega)))
      clear hst R3 K3 b4 G4 HMY HLD
      go_wp2_with (refine wpList_store_eq rfl 72 _ _ rfl _ _ rfl rfl w3 (unhide HST) ?_)
      exact bodyPost_ret (results_cell_row rfl _ _ (w.heap.size + 1) 72 _ (0, 0) _ rfl (unhide HR3) Tryd.underlying72 rfl (by rw [List.size_toArray, vals_length, mlen]; kernel_rfl)) rfl ⟨rfl, unhide HG3⟩

end Go.Proofs.YtbncoiljklagkaaDoor

/- What is proved here: a load and a store by their runs' equations, as steps of a region that draws its order; and a part of a row of bytes. They hold for every program. -/
namespace Go.Proofs.YtbncoiljklagkaaDoor
open Go.RowKit
set_option linter.unusedVariables false

theorem step_load_eq {P : Program} {ops : Array Oper} {o : Oper} {a : Act} {w : World} {K : Act → World → Prop} {Q : Exit → Act → World → Prop} {E : Prop} (hgd : o.guard = none) (ty : TypeId) (x : Operand) (ho : o.op = .load ty x)
    (p v : Value) (hx : a.eval x = p) (hrun : (Instr.loadAt ty p).run P w = .ok v w) (h : K (a.put o.dst v) w) : if Region.wanted o (yielded ops a.tmps) = true then Oper.wp P o a w K Q else E := by
  have hw : Region.wanted o (yielded ops a.tmps) = true := by simp [Region.wanted, hgd]
  rw [if_pos hw]
  unfold Oper.wp execOp
  simp only [ho, hx, Sem.run_bind, hrun, Sem.run_pure, Result.andThen_ok]
  exact h

theorem step_store_eq {P : Program} {ops : Array Oper} {o : Oper} {a : Act} {w : World} {K : Act → World → Prop} {Q : Exit → Act → World → Prop} {E : Prop} (hgd : o.guard = none) (ty : TypeId) (x y : Operand) (ho : o.op = .store ty x y)
    (p v : Value) (hx : a.eval x = p) (hy : a.eval y = v) (w2 : World) (hrun : (Instr.storeAt ty p v).run P w = .ok () w2) (h : K (a.put o.dst undef) w2) : if Region.wanted o (yielded ops a.tmps) = true then Oper.wp P o a w K Q else E := by
  have hw : Region.wanted o (yielded ops a.tmps) = true := by simp [Region.wanted, hgd]
  rw [if_pos hw]
  unfold Oper.wp execOp
  simp only [ho, hx, hy, Sem.run_bind, hrun, Sem.run_pure, Result.andThen_ok]
  exact h

theorem BRow.sub {w : World} {b off n : Nat} {bs : List Int} (h : BRow w (some ⟨b, off, none⟩) n bs) (p m : Nat) (hp : p + m ≤ n) : BRow w (some ⟨b, off + p, none⟩) m ((bs.drop p).take m) := by
  have hl := h.1
  refine ⟨by simp; omega, fun x hx => h.2.1 x (List.mem_of_mem_drop (List.mem_of_mem_take hx)), fun e => (by cases e), fun x hx i hi => ?_⟩
  cases hx
  have := h.2.2.2 _ rfl (p + i) (by omega)
  rw [add_none] at this ⊢
  rw [Nat.add_assoc, this, List.getD_eq_getElem?_getD, List.getD_eq_getElem?_getD, List.getElem?_take_of_lt (by omega), List.getElem?_drop]

end Go.Proofs.YtbncoiljklagkaaDoor

/- What is proved here: what the model's l2Pad answers for slices of at most 1200 bytes, in new memory; and what PadBytes is to answer. -/
namespace Go.Proofs.YtbncoiljklagkaaDoor
open Go.RowKit
set_option linter.unusedVariables false

theorem xor_zero128 : bits .xor .u8 0 128 = 128 := by decide
theorem xor_one128 : bits .xor .u8 1 128 = 129 := by decide

set_option maxHeartbeats 1000000 in
theorem l2Pad_any (a : Option Addr) (n cap : Nat) (zs : List Int) (w : World) (h : BRow w a n zs) (hcap : a = none → cap = 0) (hn : n ≤ 1200) :
    Calls Tryd.prog 76 #[.slice a n cap] w fun e w' => ∃ (g cap' : Nat), e = .returned (.slice (some ⟨g, 0, none⟩) (padLen n) cap') ∧
      w'.ownsRow w.heap.size 5 1 (.slice (some ⟨g, 0, none⟩) (padLen n) cap') (padLen n) ((padB zs).map (Value.int .u8)) ∧ Below w.heap.size w w' := by
  obtain ⟨i0, hi, hz0, hz1, hz2⟩ := info_parts info5
  have hzl := h.1
  have hpl := padLen_lt n
  have HCP := hide (copy_any a n cap zs w h hcap (by omega))
  have HF := hide (padLen_first n)
  have HL := hide (padRaw_last zs)
  clear h
  go_enter Tryd.func76, Tryd.ntmps76
  go_wp2_with fail
  refine (unhide HCP).mono ?_
  rintro e w1 ⟨a1, c1, rfl, o1, b1⟩
  have hs1 := b1.size
  go_wp2_with (at_builtin; refine wpList_append_own _ rfl _ _ 22 rfl w.heap.size 5 i0 (.int .u8 0) 1 1 Tryd.underlying22 hi hz0 hz1 hz2 rfl (by decide) _ _ _ rfl (o1.alloc _) ⟨w1.heap.size, 0, none⟩ 1 1 [.int .u8 1] rfl rfl ?c1 ?c2 ?c3 ?c4 ?c5 ?_)
  case c1 => exact cell_one_new _ _ _
  case c2 => intro u hu; simp at hu; subst hu; rfl
  case c3 => unfold maxLen; omega
  case c4 => omega
  case c5 => simp; omega
  intro v2 w2 o2 hgrow _
  obtain ⟨g2, cap2, hv2⟩ := own_some o2 (by omega)
  have b2 : Below w.heap.size w w2 := (b1.alloc hs1 _).grown hgrow (by simp; omega) (fun q e => (o1.lt q e).1)
  rw [hv2] at o2
  rw [hv2]
  have O2 : Hid (w2.ownsRow w.heap.size 5 1 (.slice (some ⟨g2, 0, none⟩) (n + 1) cap2) (n + 1) ((padRaw zs (n + 1 - n - 1)).map (Value.int .u8))) := by
    show w2.ownsRow _ _ _ _ _ _
    have e : n + 1 - n - 1 = 0 := by omega
    rw [e]
    simpa [padRaw] using o2
  have HB2 := hide b2
  clear o2 b2 hgrow hv2 o1 b1 HCP
  go_wp2_with fail
  go_loopw [3] (fun v wr => ∃ (m g c : Nat), n + 1 ≤ m ∧ m ≤ padLen n ∧ v = .slice (some ⟨g, 0, none⟩) m c ∧ wr.ownsRow w.heap.size 5 1 (.slice (some ⟨g, 0, none⟩) m c) m ((padRaw zs (m - n - 1)).map (Value.int .u8)) ∧ Below w.heap.size w wr)
    (fun v _ => padLen n - lenOf v)
  case atStart => exact ⟨n + 1, g2, cap2, by omega, by omega, rfl, unhide O2, unhide HB2⟩
  case round =>
    obtain ⟨m, g, c, hm1, hm2, rfl, hown, hbel⟩ := hrel
    clear O2 HB2
    by_cases hm : m % 136 = 0
    · have hfin := (unhide HF) m (by omega) hm2 hm
      have hmod : ((m : Int) % 136 != 0) = false := by rw [bne_eq_false_iff_eq]; omega
      have hlast := unhide HL
      rw [hzl, ← hfin] at hlast
      have hcell : wr.cell? ⟨g, m - 1, none⟩ = some (.int .u8 (if n + 1 = m then 1 else 0)) := by
        rw [hown.cellAt (m - 1) (by omega), List.getElem?_map, List.getElem?_eq_getElem (by rw [padRaw_length]; omega)]
        rw [← hlast, getD_at _ _ (by rw [padRaw_length]; omega)]
        rfl
      have hfz := hown.frozenAt (m - 1)
      have hx : bits .xor .u8 (if n + 1 = m then 1 else 0) 128 = padLast n := by
        unfold padLast
        rw [← hfin]
        split
        · exact xor_one128
        · exact xor_zero128
      have R := hown.stored (m - 1) (.int .u8 (padLast n))
      have HR : Hid ((wr.setCell ⟨g, m - 1, none⟩ (.int .u8 (padLast n))).ownsRow w.heap.size 5 1 (.slice (some ⟨g, 0, none⟩) m c) m ((padB zs).map (Value.int .u8))) := by
        show World.ownsRow _ _ _ _ _ _ _
        unfold padB
        rw [hzl, ← hfin, List.map_set]
        exact R.1
      have HBB : Hid (Below w.heap.size w (wr.setCell ⟨g, m - 1, none⟩ (.int .u8 (padLast n)))) := hbel.setCell ((hown.lt g rfl).1) _
      have HFIN := hide hfin
      have i1 : (0 : Int) < (m : Int) := by omega
      generalize (if n + 1 = m then (1 : Int) else 0) = lb at hcell hx
      clear hlast R hown hbel hfin
      go_wp2_with fail
      go_ret
      rw [← unhide HFIN]
      exact ⟨g, c, rfl, unhide HR, unhide HBB⟩
    · have hmod : ((m : Int) % 136 != 0) = true := by rw [bne_iff_ne]; omega
      have hlt : m < padLen n := by
        have := hpl.2.2
        rcases Nat.lt_or_eq_of_le hm2 with h | h
        · exact h
        · rw [← h] at this; omega
      have hsz := hbel.size
      go_wp2_with (at_builtin; refine wpList_append_own _ rfl _ _ 22 rfl w.heap.size 5 i0 (.int .u8 0) 1 1 Tryd.underlying22 hi hz0 hz1 hz2 rfl (by decide) _ _ _ rfl (hown.alloc _) ⟨wr.heap.size, 0, none⟩ 1 1 [.int .u8 0] rfl rfl ?d1 ?d2 ?d3 ?d4 ?d5 ?_)
      case d1 => exact cell_one_new _ _ _
      case d2 => intro u hu; simp at hu; subst hu; rfl
      case d3 => unfold maxLen; omega
      case d4 => omega
      case d5 => simp; omega
      intro v3 w3 o3 hgrow _
      obtain ⟨g3, cap3, hv3⟩ := own_some o3 (by omega)
      have b3 : Below w.heap.size w w3 := (hbel.alloc hsz _).grown hgrow (by simp; omega) (fun q e => (hown.lt q e).1)
      rw [hv3] at o3
      rw [hv3]
      have O3 : Hid (w3.ownsRow w.heap.size 5 1 (.slice (some ⟨g3, 0, none⟩) (m + 1) cap3) (m + 1) ((padRaw zs (m + 1 - n - 1)).map (Value.int .u8))) := by
        show w3.ownsRow _ _ _ _ _ _
        have e : m + 1 - n - 1 = (m - n - 1) + 1 := by omega
        rw [e, padRaw_succ, List.map_append]
        exact o3
      have HB3 := hide b3
      clear o3 b3 hgrow hv3 hown hbel
      go_wp2_with fail
      go_roundw
      case rel => exact ⟨m + 1, g3, cap3, by omega, by omega, rfl, unhide O3, unhide HB3⟩
      case measure => simp [lenOf]; omega

/-- The code and the bytes of PadBytes. -/
def pdCode (zs : List Int) : Int := if 1200 < zs.length then 2 else 0
def pdBytes (zs : List Int) : List Int := if 1200 < zs.length then [] else padB zs

theorem pdBytes_range (zs : List Int) (h : ∀ x ∈ zs, 0 ≤ x ∧ x ≤ 255) : ∀ x ∈ pdBytes zs, 0 ≤ x ∧ x ≤ 255 := by
  unfold pdBytes
  split
  · intro x hx; simp at hx
  · exact padB_range zs h

theorem pdBytes_length (zs : List Int) : (pdBytes zs).length ≤ 1400 := by
  unfold pdBytes
  split
  · simp
  · rw [padB_length]; have := padLen_lt zs.length; omega

end Go.Proofs.YtbncoiljklagkaaDoor

/- What is proved here: what the program's PadBytes answers for all bytes: the model's code and bytes, in new memory. -/
namespace Go.Proofs.YtbncoiljklagkaaDoor
open Go.RowKit
set_option linter.unusedVariables false

theorem psize5 : (Tryd.prog.info? 5).map (·.size) = some 1 := by kernel_rfl

/-- Bytes copied to the beginning of a row that is longer. -/
theorem copy_begin (w : World) (B g d n sCap : Nat) (a : Addr) (xs cs : List Value) (h : w.ownsRow B 5 1 (.slice (some ⟨g, 0, none⟩) d d) d xs) (hl : cs.length = n) (hnd : n ≤ d)
    (hsrc : ∀ j v, cs[j]? = some v → w.cell? (a.add j) = some v) (h1 : ∀ v ∈ cs, v.oneCell' = true) :
    ∃ W, (Builtin.copy_ #[22, 22] 3 #[.slice (some ⟨g, 0, none⟩) d d, .slice (some a) n sCap]).run Tryd.prog w = .ok (goInt n) W ∧
      W.ownsRow B 5 1 (.slice (some ⟨g, 0, none⟩) d d) d (cs ++ xs.drop n) ∧ w.grownBy W (some g) := by
  have hxl := h.1
  rcases h.2 with ⟨h', _⟩ | ⟨g', cap', cur, h', hb, hg, hnc, hcm, hcs, htake⟩
  · simp at h'
  · simp only [Value.slice.injEq, Option.some.injEq, Addr.mk.injEq, and_true, true_and] at h'
    obtain ⟨rfl, rfl⟩ := h'
    have hr := run_copy_row (P := Tryd.prog) w 22 22 3 5 g 0 d d a n sCap cur 5 cs Tryd.underlying22 psize5 hg (by rw [hl]; exact (Nat.min_eq_left hnd).symm) hsrc (by omega) h1
    have hcur : cur.toList = xs := by
      have : cur.toList.length ≤ d := by simp; omega
      rw [← htake, Nat.mul_one, List.take_of_length_le this]
    have e1 : cur.toList.take 0 ++ cs ++ cur.toList.drop (0 + cs.length) = cs ++ xs.drop n := by
      rw [hcur, hl]; simp
    rw [e1, hl] at hr
    have hlen : (cs ++ xs.drop n).length = d := by simp; omega
    exact ⟨_, hr, ⟨by rw [hlen, Nat.mul_one], .inr ⟨g, d, (cs ++ xs.drop n).toArray, rfl, hb, setRow_heap w g cur _ 5 _ hg, Nat.le_refl _, hcm, by simpa using hlen, by
      have : (d * 1) = d := by omega
      simp only [this]
      rw [List.take_of_length_le (by simp; omega)]⟩⟩,
      ⟨rfl, rfl, rfl, by simp [World.setRow], fun k _ hk => setRow_other w g k _ (fun e => hk (by simp [e]))⟩⟩

/-- The like of any slice that came in. -/
theorem copy_any_begin (w : World) (B g d n sCap : Nat) (a : Option Addr) (hcap : a = none → sCap = 0) (zs : List Int) (xs : List Value) (h : w.ownsRow B 5 1 (.slice (some ⟨g, 0, none⟩) d d) d xs) (hr : BRow w a n zs) (hnd : n ≤ d) :
    ∃ W, (Builtin.copy_ #[22, 22] 3 #[.slice (some ⟨g, 0, none⟩) d d, .slice a n sCap]).run Tryd.prog w = .ok (goInt n) W ∧
      W.ownsRow B 5 1 (.slice (some ⟨g, 0, none⟩) d d) d (zs.map (Value.int .u8) ++ xs.drop n) ∧ w.grownBy W (some g) := by
  cases a with
  | none =>
    obtain rfl : n = 0 := hr.2.2.1 rfl
    obtain rfl : zs = [] := List.length_eq_zero_iff.1 hr.1
    obtain rfl : sCap = 0 := hcap rfl
    refine ⟨w, ?_, by simpa using h, grownBy_refl w _⟩
    have := run_copy_nil (P := Tryd.prog) w 22 22 3 5 ⟨g, 0, none⟩ d d Tryd.underlying22 (by kernel_rfl)
    simpa [goInt] using this
  | some x =>
    refine copy_begin w B g d n sCap x xs (zs.map (Value.int .u8)) h (by simpa using hr.1) hnd ?_ (fun v hv => by obtain ⟨z, _, rfl⟩ := List.mem_map.1 hv; rfl)
    intro j v hj
    have hjl : j < zs.length := by have := (List.getElem?_eq_some_iff.1 hj).1; simpa using this
    rw [hr.2.2.2 x rfl j (by rw [← hr.1]; exact hjl)]
    rw [List.getElem?_map, List.getElem?_eq_getElem hjl] at hj
    rw [getD_at _ _ hjl]
    exact hj

theorem raw_start (zs : List Int) (n D : Nat) (hzl : zs.length = n) (hD : n < D) :
    ((zs.map (Value.int .u8) ++ (madeCells #[Value.int .u8 0] D).toList.drop n).set n (.int .u8 1)) = (padRaw zs (D - n - 1)).map (Value.int .u8) := by
  rw [toList_madeCells_one, List.drop_replicate, List.set_append, if_neg (by simp; omega)]
  unfold padRaw
  rw [List.map_append, List.map_cons, List.map_replicate]
  congr 1
  obtain ⟨k, hk⟩ : ∃ k, D - n = k + 1 := ⟨D - n - 1, by omega⟩
  rw [List.length_map, hzl, Nat.sub_self, hk, List.replicate_succ, List.set_cons_zero]
  rfl

set_option maxRecDepth 100000 in
set_option maxHeartbeats 1000000 in
theorem implPad_in (a : Option Addr) (n cap : Nat) (zs : List Int) (w : World) (h : BRow w a n zs) (hcap : a = none → cap = 0) (hn : n ≤ 1200) :
    Calls Tryd.prog 64 #[.slice a n cap] w fun e w' => ∃ g cap', e = .returned (.agg #[.int .i64 0, .slice (some ⟨g, 0, none⟩) (padLen n) cap']) ∧
      w'.ownsRow w.heap.size 5 1 (.slice (some ⟨g, 0, none⟩) (padLen n) cap') (padLen n) ((padB zs).map (Value.int .u8)) ∧ Below w.heap.size w w' := by
  obtain ⟨i0, hi, hz0, hz1, hz2⟩ := info_parts info5
  have hzl := h.1
  have hp := padLen_lt n
  have hlast := padRaw_last zs
  have hB : padB zs = (padRaw zs (padLen n - n - 1)).set (padLen n - 1) (padLast n) := by unfold padB; rw [hzl]
  rw [hzl] at hlast
  have hpl : padLast n = if n + 1 = padLen n then 129 else 128 := rfl
  have hDe : (n : Int) / 136 * 136 + 136 = (padLen n : Int) := by unfold padLen; omega
  generalize padLast n = PL at hB hpl
  rw [hB]
  generalize padLen n = D at hp hlast hpl hDe
  have HLA := hide hlast
  have HPL := hide hpl
  have HH := hide h
  have HCP := hide hcap
  clear hcap hB hlast h hpl
  go_enter Tryd.func64, Tryd.ntmps64
  go_wp2_with (at_make; refine wpList_make_full _ rfl _ _ 22 rfl (w.heap.size + 1) 5 i0 (.int .u8 0) 1 Tryd.underlying22 hi hz0 hz1 _ _ _ _ D rfl rfl (by omega) (by omega) ?c1 ?c2 ?c3 ?_)
  case c1 => rw [hz2]; omega
  case c2 => unfold maxLen; omega
  case c3 => simp
  intro w1 hown hgrow
  have hb0 := below_alloc w (.cells #[.int .i64 0, .slice none 0 0] 28)
  have hres : (w.alloc (.cells #[.int .i64 0, .slice none 0 0] 28)).heap[w.heap.size]? = some (.cells #[.int .i64 0, .slice none 0 0] 28 (0, 0)) := by
    show (w.heap.push _)[w.heap.size]? = _
    simp
  have hsz : (w.alloc (.cells #[.int .i64 0, .slice none 0 0] 28)).heap.size = w.heap.size + 1 := by simp
  have hb1 : Below w.heap.size w w1 := hb0.grown hgrow (by rw [hsz]; omega) (fun k e => by cases e)
  have hres1 : w1.heap[w.heap.size]? = some (.cells #[.int .i64 0, .slice none 0 0] 28 (0, 0)) := (hgrow.block _ (by rw [hsz]; omega) (by simp)).trans hres
  have hsz1 : w.heap.size + 1 ≤ w1.heap.size := by rw [← hsz]; exact hgrow.size
  obtain ⟨w2, hcp, hown2, hgrow2⟩ := copy_any_begin w1 (w.heap.size + 1) (w.heap.size + 1) D n cap a (unhide HCP) zs _ hown ((unhide HH).below hb1 (Nat.le_refl _)) (by omega)
  have hb2 : Below w.heap.size w w2 := hb1.grown hgrow2 (by omega) (fun k e => by cases e; omega)
  have hres2 : w2.heap[w.heap.size]? = some (.cells #[.int .i64 0, .slice none 0 0] 28 (0, 0)) := (hgrow2.block _ (by omega) (by simp)).trans hres1
  have fr1 := hown2.frozenAt n
  obtain ⟨u, hu⟩ : ∃ u, w2.cell? ⟨w.heap.size + 1, n, none⟩ = some u := by
    rw [hown2.cellAt n (by omega)]
    exact ⟨_, List.getElem?_eq_getElem (by rw [hown2.1]; omega)⟩
  have R3 := hown2.stored n (.int .u8 1)
  rw [raw_start zs n D hzl hp.1] at R3
  have o3 := R3.1
  have hb3 : Below w.heap.size w (w2.setCell ⟨w.heap.size + 1, n, none⟩ (.int .u8 1)) := hb2.setCell (Nat.le_succ _) _
  have hres3 : (w2.setCell ⟨w.heap.size + 1, n, none⟩ (.int .u8 1)).heap[w.heap.size]? = some (.cells #[.int .i64 0, .slice none 0 0] 28 (0, 0)) := (heap_setCell_other w2 ⟨w.heap.size + 1, n, none⟩ w.heap.size _ (by simp)).trans hres2
  obtain ⟨w3, hw3⟩ : ∃ w3, w3 = w2.setCell ⟨w.heap.size + 1, n, none⟩ (.int .u8 1) := ⟨_, rfl⟩
  rw [← hw3] at o3 hb3 hres3
  have fr2 := o3.frozenAt (D - 1)
  have hpr := padRaw_length zs (D - n - 1)
  have hv : w3.cell? ⟨w.heap.size + 1, D - 1, none⟩ = some (.int .u8 (if n + 1 = D then 1 else 0)) := by
    rw [o3.cellAt (D - 1) (by omega), ← unhide HLA, getD_at _ _ (by omega), List.getElem?_map, List.getElem?_eq_getElem (by omega)]
    rfl
  have hx : bits .xor .u8 (if n + 1 = D then 1 else 0) 128 = PL := by
    rw [unhide HPL]
    split <;> decide
  generalize (if n + 1 = D then (1 : Int) else 0) = lv at hv hx
  have R4 := o3.stored (D - 1) (.int .u8 PL)
  rw [← List.map_set] at R4
  have hb4 : Below w.heap.size w (w3.setCell ⟨w.heap.size + 1, D - 1, none⟩ (.int .u8 PL)) := hb3.setCell (Nat.le_succ _) _
  have hres4 : (w3.setCell ⟨w.heap.size + 1, D - 1, none⟩ (.int .u8 PL)).heap[w.heap.size]? = some (.cells #[.int .i64 0, .slice none 0 0] 28 (0, 0)) := (heap_setCell_other w3 ⟨w.heap.size + 1, D - 1, none⟩ w.heap.size _ (by simp)).trans hres3
  obtain ⟨w4, hw4⟩ : ∃ w4, w4 = w3.setCell ⟨w.heap.size + 1, D - 1, none⟩ (.int .u8 PL) := ⟨_, rfl⟩
  rw [← hw4] at R4 hb4 hres4
  obtain ⟨q0, q1, f0, f1⟩ := res_facts hres4
  have HO := hide R4.1
  have HB := hide hb4
  have e3 := hw3.symm
  have e4 := hw4.symm
  have hD1 : (D : Int) - 1 = ((D - 1 : Nat) : Int) := by omega
  clear hown hgrow hown2 hgrow2 hb0 hb1 hb2 hb3 hb4 R3 R4 o3 hres hres1 hres2 hres3 hres4 hw3 hw4
  go_wp2_with fail
  refine bodyPost_ret (v := .agg #[.int .i64 0, .slice (some ⟨w.heap.size + 1, 0, none⟩) D D]) (by simp [results, Tryd.results64, go_sem, q0, q1]) rfl ⟨_, D, rfl, ?_, ?_⟩
  · exact ownsRow_base (ownsRow_setCell_below (ownsRow_setCell_below (unhide HO) (by simp) _) (by simp) _) (by omega)
  · exact ((unhide HB).setCell (by simp) _).setCell (by simp) _

set_option maxHeartbeats 1000000 in
theorem implPad_any (a : Option Addr) (n cap : Nat) (zs : List Int) (w : World) (h : BRow w a n zs) (hcap : a = none → cap = 0) (hn : n ≤ 1048576) :
    Calls Tryd.prog 64 #[.slice a n cap] w fun e w' => ∃ a' cap', e = .returned (.agg #[.int .i64 (pdCode zs), .slice a' (pdBytes zs).length cap']) ∧
      w'.ownsRow w.heap.size 5 1 (.slice a' (pdBytes zs).length cap') (pdBytes zs).length ((pdBytes zs).map (Value.int .u8)) ∧ Below w.heap.size w w' := by
  have hzl := h.1
  by_cases hm : 1200 < n
  · have e1 : pdCode zs = 2 := if_pos (by omega)
    have e2 : pdBytes zs = [] := if_pos (by omega)
    rw [e1, e2]
    clear h e1 e2 hcap
    go_enter Tryd.func64, Tryd.ntmps64
    go_wp2_with fail
    exact bodyPost_ret (v := .agg #[.int .i64 2, .slice none 0 0]) (by simp [results, Tryd.results64, go_sem]) rfl ⟨none, 0, rfl, World.ownsRow_nil _ _ _ _, (Below.refl _ _).alloc (Nat.le_refl _) _⟩
  · have e1 : pdCode zs = 0 := if_neg (by omega)
    have e2 : pdBytes zs = padB zs := if_neg (by omega)
    have e3 := padB_length zs
    rw [hzl] at e3
    rw [e1, e2, e3]
    refine (implPad_in a n cap zs w h hcap (by omega)).mono fun e w' hq => ?_
    obtain ⟨g, c, h1, h2, h3⟩ := hq
    exact ⟨_, c, h1, h2, h3⟩

end Go.Proofs.YtbncoiljklagkaaDoor
