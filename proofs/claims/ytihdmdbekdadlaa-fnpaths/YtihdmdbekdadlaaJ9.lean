/- What is proved here: the model's source of small numbers gives a number below its bound, and moves on by one. -/
import Derived.Test.YtihdmdbekdadlaaChecked
import Derived.Test.YtihdmdbekdadlaaJ1
import Derived.WalkKit
import Derived.WalkLawsBesides
import Derived.WalkSmall
import Derived.WalkSpells
import Derived.BigQuiet
import Derived.Deep.QuietTactic
import Derived.KernelRfl
import Derived.Test.YtihdmdbekdadlaaJ2
import Derived.Test.YtihdmdbekdadlaaJ6
namespace Go.Proofs.Ytihdmdbekdadlaa
open Go.RowKit
set_option linter.unusedVariables false
set_option maxRecDepth 100000

/-- The source lies in block b: its bytes, and where it reads next. -/
def Src (w : World) (b : Nat) (a : Option Addr) (len cap : Nat) (t : Int) : Prop := w.heap[b]? = some (.cells #[.slice a len cap, .int .i64 t] 74 (0, 0))

theorem Src.step {w : World} {b : Nat} {a : Option Addr} {len cap : Nat} {t : Int} (h : Src w b a len cap t) (u : Int) : Src (w.setCell ⟨b, 1, none⟩ (.int .i64 u)) b a len cap u :=
  heap_setCell_same w b 1 _ _ _ h

theorem grown_store (w : World) (b : Nat) (u : Value) : w.grownBy (w.setCell ⟨b, 1, none⟩ u) (some b) :=
  ⟨rfl, rfl, rfl, by simp [World.setCell], fun k _ hk => heap_setCell_other w ⟨b, 1, none⟩ k u (fun e => hk (by simp [e]))⟩

set_option maxHeartbeats 1000000 in
theorem l1Next_zero (b : Nat) (a : Option Addr) (cap : Nat) (t n : Int) (w : World) (h : Src w b a 0 cap t) (ht : 0 ≤ t) (ht2 : t ≤ 1000000) (hn : 1 ≤ n) (hn2 : n ≤ 1048576) :
    Calls Try.prog 36 #[.pointer (some ⟨b, 0, none⟩), .int .i64 n] w fun e w' => (∃ v, e = .returned (.int .i64 v) ∧ 0 ≤ v ∧ v < n) ∧ Src w' b a 0 cap (t + 1) ∧ w.grownBy w' (some b) := by
  obtain ⟨q0, q1, f0, f1⟩ := res_facts h
  have hs := h.step (t + 1)
  obtain ⟨r0, r1, _, _⟩ := res_facts hs
  have HS := hide hs
  have HG := hide (grown_store w b (.int .i64 (t + 1)))
  clear h hs
  have hne : ¬ n < 1 := by omega
  go_enter Try.func36, Try.ntmps36
  go_wp2_with fail
  go_ret
  refine ⟨⟨t * 7 % n, rfl, ?_, ?_⟩, unhide HS, unhide HG⟩
  · exact Int.emod_nonneg _ (by omega)
  · exact Int.emod_lt_of_pos _ (by omega)

theorem i64_in (n : Int) (h0 : 0 ≤ n) (h1 : n ≤ 4611686018427387904) : IntKind.i64.wrap n = n := by
  rw [IntKind.wrap_i64]; omega

set_option maxHeartbeats 1000000 in
theorem l1Next_pos (b bo off : Nat) (len cap : Nat) (xs : List Int) (t n : Int) (w : World) (h : Src w b (some ⟨bo, off, none⟩) len cap t) (hrow : BRow w (some ⟨bo, off, none⟩) len xs) (hbo : bo ≠ b) (hp : 0 < len) (hl : len ≤ 1048576) (ht : 0 ≤ t) (ht2 : t ≤ 1000000) (hn : 1 ≤ n) (hn2 : n ≤ 1048576) :
    Calls Try.prog 36 #[.pointer (some ⟨b, 0, none⟩), .int .i64 n] w fun e w' => (∃ v, e = .returned (.int .i64 v) ∧ 0 ≤ v ∧ v < n) ∧ Src w' b (some ⟨bo, off, none⟩) len cap (t + 1) ∧ w.grownBy w' (some b) := by
  obtain ⟨q0, q1, f0, f1⟩ := res_facts h
  have hs := h.step (t + 1)
  obtain ⟨r0, r1, _, _⟩ := res_facts hs
  have HS := hide hs
  have HG := hide (grown_store w b (.int .i64 (t + 1)))
  have hrow2 : BRow (w.setCell ⟨b, 1, none⟩ (.int .i64 (t + 1))) (some ⟨bo, off, none⟩) len xs := by
    refine ⟨hrow.1, hrow.2.1, fun e => (by cases e), fun x hx i hi => ?_⟩
    have hc := hrow.2.2.2 x hx i hi
    cases hx
    rw [add_none] at hc ⊢
    exact (grown_store w b (.int .i64 (t + 1))).cell hc (by simpa using hbo)
  have hlen0 : ((len : Int) == 0) = false := by rw [beq_eq_false_iff_ne]; omega
  clear h hs
  generalize hw2 : w.setCell ⟨b, 1, none⟩ (.int .i64 (t + 1)) = w2 at HS HG hrow2 r0 r1
  go_enter Try.func36, Try.ntmps36
  go_wp2_with fail
  have ht0 : 0 ≤ t % (len : Int) := Int.emod_nonneg _ (by omega)
  have ht1 : t % (len : Int) < (len : Int) := Int.emod_lt_of_pos _ (by omega)
  have hq0 : 0 ≤ t / (len : Int) := Int.ediv_nonneg ht (by omega)
  have hq1 : t / (len : Int) ≤ t := Int.ediv_le_self _ ht
  have e1 : t.tmod (len : Int) = t % (len : Int) := Int.tmod_eq_emod_of_nonneg ht
  have e2 : IntKind.i64.wrap (t.tdiv (len : Int)) = t / (len : Int) := by rw [Int.tdiv_eq_ediv_of_nonneg ht]; exact i64_in _ hq0 (by omega)
  obtain ⟨i, hi⟩ := Int.eq_ofNat_of_zero_le ht0
  rw [hi] at e1 ht1
  generalize t / (len : Int) = q at hq0 hq1 e2
  have hci := hrow2.2.2.2 _ rfl i (by omega)
  rw [add_none] at hci
  have hx := hrow2.2.1 (xs.getD i 0) (by rw [getD_at _ _ (by have := hrow2.1; omega)]; exact List.getElem_mem _)
  generalize xs.getD i 0 = x at hci hx
  have e3 := i64_in (q * 37) (by omega) (by omega)
  have e4 := i64_in (x + q * 37) (by omega) (by omega)
  have e5 := i64_in x (by omega) (by omega)
  have i1 : (0 : Int) ≤ (i : Int) := by omega
  have HI := hide hi
  have HW := hide hw2
  clear hi hw2 ht0 hrow
  by_cases hbig : n ≤ 200
  · go_quiet (fail)
    go_wp2_with fail
    go_ret
    refine ⟨⟨(x + q * 37) % n, rfl, Int.emod_nonneg _ (by omega), Int.emod_lt_of_pos _ (by omega)⟩, unhide HS, ?_⟩
    exact ⟨(unhide HG).os, (unhide HG).tape, (unhide HG).output, (unhide HG).size, (unhide HG).block⟩
  · have hu0 : 0 ≤ (t + 1) % (len : Int) := Int.emod_nonneg _ (by omega)
    have hu1 : (t + 1) % (len : Int) < (len : Int) := Int.emod_lt_of_pos _ (by omega)
    have g1 : (t + 1).tmod (len : Int) = (t + 1) % (len : Int) := Int.tmod_eq_emod_of_nonneg (by omega)
    obtain ⟨m, hm⟩ := Int.eq_ofNat_of_zero_le hu0
    rw [hm] at g1 hu1
    have hcm := hrow2.2.2.2 _ rfl m (by omega)
    rw [add_none] at hcm
    have hy := hrow2.2.1 (xs.getD m 0) (by rw [getD_at _ _ (by have := hrow2.1; omega)]; exact List.getElem_mem _)
    generalize xs.getD m 0 = y at hcm hy
    have g2 := i64_in (t + 1) (by omega) (by omega)
    have g3 := i64_in ((x + q * 37) * 251) (by omega) (by omega)
    have g4 := i64_in (y * 13) (by omega) (by omega)
    have g5 := i64_in ((x + q * 37) * 251 + y * 13) (by omega) (by omega)
    have g6 := i64_in ((x + q * 37) * 251 + y * 13 + t) (by omega) (by omega)
    have g7 := i64_in y (by omega) (by omega)
    have m1 : (0 : Int) ≤ (m : Int) := by omega
    have HM := hide hm
    clear hm hu0
    go_quiet (fail)
    go_wp2_with fail
    go_quiet (fail)
    go_wp2_with fail
    go_ret
    refine ⟨⟨_, rfl, Int.emod_nonneg _ (by omega), Int.emod_lt_of_pos _ (by omega)⟩, unhide HS, ?_⟩
    exact ⟨(unhide HG).os, (unhide HG).tape, (unhide HG).output, (unhide HG).size, (unhide HG).block⟩

end Go.Proofs.Ytihdmdbekdadlaa

/- What is proved here: the model's draws of numbers return, and write into no memory that was there but the source. -/
namespace Go.Proofs.Ytihdmdbekdadlaa
open Go.RowKit
set_option linter.unusedVariables false
set_option maxRecDepth 100000

/-- The source in block b reads bytes that lie ahead of it, from t on. -/
def SrcOk (w : World) (b : Nat) (t : Int) : Prop :=
  ∃ (a : Option Addr) (len cap : Nat) (xs : List Int), Src w b a len cap t ∧ BRow w a len xs ∧ len ≤ 1048576 ∧ (0 < len → ∀ x, a = some x → x.block < b)

theorem SrcOk.grown {w w' : World} {b : Nat} {t : Int} {row : Option Nat} (h : SrcOk w b t) (hg : w.grownBy w' row) (hr : ∀ k, row = some k → b < k) : SrcOk w' b t := by
  obtain ⟨a, len, cap, xs, h1, h2, h3, h4⟩ := h
  have hb := lt_of_block h1
  refine ⟨a, len, cap, xs, ?_, ⟨h2.1, h2.2.1, h2.2.2.1, fun x hx i hi => ?_⟩, h3, h4⟩
  · show w'.heap[b]? = _
    rw [hg.block b hb (fun e => by have := hr b e.symm; omega)]
    exact h1
  · have hc := h2.2.2.2 x hx i hi
    have hxb := h4 (by omega) x hx
    have hbl : (x.add i).block = x.block := by unfold Addr.add; split <;> rfl
    exact hg.cell hc (fun e => by have := hr _ e.symm; omega)

theorem SrcOk.below {w w' : World} {b : Nat} {t : Int} {C : Nat} (h : SrcOk w b t) (hb : Below C w w') (hC : w.heap.size ≤ C) : SrcOk w' b t :=
  h.grown (row := none) ⟨hb.os, hb.tape, hb.output, hb.size, fun k hk _ => hb.block k (by omega)⟩ (fun k e => by cases e)

theorem SrcOk.lt {w : World} {b : Nat} {t : Int} (h : SrcOk w b t) : b < w.heap.size := by
  obtain ⟨a, len, cap, xs, h1, _⟩ := h
  exact lt_of_block h1

theorem next_any (b : Nat) (t n : Int) (w : World) (h : SrcOk w b t) (ht : 0 ≤ t) (ht2 : t ≤ 1000000) (hn : 1 ≤ n) (hn2 : n ≤ 1048576) :
    Calls Try.prog 36 #[.pointer (some ⟨b, 0, none⟩), .int .i64 n] w fun e w' => (∃ v, e = .returned (.int .i64 v) ∧ 0 ≤ v ∧ v < n) ∧ SrcOk w' b (t + 1) ∧ w.grownBy w' (some b) := by
  obtain ⟨a, len, cap, xs, h1, h2, h3, h4⟩ := h
  rcases Nat.eq_zero_or_pos len with h0 | hp
  · subst h0
    refine (l1Next_zero b a cap t n w h1 ht ht2 hn hn2).mono fun e w' hq => ?_
    obtain ⟨hv, hs, hg⟩ := hq
    exact ⟨hv, ⟨a, 0, cap, xs, hs, ⟨h2.1, h2.2.1, fun _ => rfl, fun x hx i hi => by omega⟩, h3, fun h => by omega⟩, hg⟩
  · obtain ⟨bo, off, rfl, _, _⟩ := h2.at hp
    have hbo : bo < b := h4 hp _ rfl
    refine (l1Next_pos b bo off len cap xs t n w h1 h2 (by omega) hp h3 ht ht2 hn hn2).mono fun e w' hq => ?_
    obtain ⟨hv, hs, hg⟩ := hq
    refine ⟨hv, ⟨_, len, cap, xs, hs, ⟨h2.1, h2.2.1, fun e => (by cases e), fun x hx i hi => ?_⟩, h3, h4⟩, hg⟩
    have hc := h2.2.2.2 x hx i hi
    cases hx
    rw [add_none] at hc ⊢
    exact hg.cell hc (by simp; omega)

end Go.Proofs.Ytihdmdbekdadlaa

/- What is proved here: the model's source of draws and its picks out of a list return, write into no memory that was there but the source, and give what the list holds. -/
namespace Go.Proofs.Ytihdmdbekdadlaa
open Go.RowKit
set_option linter.unusedVariables false
set_option maxRecDepth 100000

set_option maxHeartbeats 1000000 in
theorem source_any (a : Option Addr) (len cap : Nat) (xs : List Int) (w : World) (h : BRow w a len xs) (hl : len ≤ 1048576) :
    Calls Try.prog 33 #[.slice a len cap] w fun e w' => e = .returned (.pointer (some ⟨w.heap.size, 0, none⟩)) ∧ SrcOk w' w.heap.size 0 ∧ Below w.heap.size w w' := by
  have hb := below_alloc w (.cells #[.slice a len cap, .int .i64 0] 74)
  have hs : SrcOk (w.alloc (.cells #[.slice a len cap, .int .i64 0] 74)) w.heap.size 0 := by
    refine ⟨a, len, cap, xs, ?_, h.below hb (Nat.le_refl _), hl, fun hp x hx => ?_⟩
    · show (w.heap.push _)[w.heap.size]? = _
      simp
    · have hc := h.2.2.2 x hx 0 hp
      have := lt_of_cell hc
      have hbl : (x.add 0).block = x.block := by unfold Addr.add; split <;> rfl
      omega
  have HS := hide hs
  have HB := hide hb
  clear hs hb h
  go_enter Try.func33, Try.ntmps33
  go_wp2
  go_ret
  exact ⟨rfl, unhide HS, unhide HB⟩

theorem grown_below {w0 w w' : World} {B b : Nat} (h : Below B w0 w) (hg : w.grownBy w' (some b)) (hB : B ≤ w.heap.size) (hb : B ≤ b) : Below B w0 w' :=
  h.grown hg hB (fun k e => by cases e; exact hb)

set_option maxHeartbeats 1000000 in
theorem pick_any (b g m : Nat) (L : List Int) (t : Int) (w : World) (h : SrcOk w b t) (ht : 0 ≤ t) (ht2 : t ≤ 1000000) (hgb : g ≠ b) (hm : 1 ≤ m) (hm2 : m ≤ 100) (hL : L.length = m)
    (hc : ∀ i, i < m → w.cell? ⟨g, i, none⟩ = some (.int .i64 (L.getD i 0))) :
    Calls Try.prog 44 #[.pointer (some ⟨b, 0, none⟩), .slice (some ⟨g, 0, none⟩) m m] w fun e w' => (∃ v, e = .returned (.int .i64 v) ∧ v ∈ L) ∧ SrcOk w' b (t + 1) ∧ w.grownBy w' (some b) := by
  have HN := hide (next_any b t m w h ht ht2 (by omega) (by omega))
  have HC := hide hc
  clear hc h
  go_enter Try.func44, Try.ntmps44
  go_wp2_with fail
  refine (unhide HN).mono ?_
  rintro e w1 ⟨⟨v, rfl, hv0, hv1⟩, s1, g1⟩
  obtain ⟨i, rfl⟩ := Int.eq_ofNat_of_zero_le hv0
  have hci := g1.cell ((unhide HC) i (by omega)) (by simpa using hgb)
  have hin : L.getD i 0 ∈ L := by rw [getD_at _ _ (by omega)]; exact List.getElem_mem _
  generalize L.getD i 0 = x at hci hin
  have i1 : (0 : Int) ≤ (i : Int) := by omega
  go_wp2_with fail
  go_ret
  exact ⟨⟨x, rfl, hin⟩, s1, g1⟩

end Go.Proofs.Ytihdmdbekdadlaa

/- What is proved here: the model's chance, a draw that says yes or no. -/
namespace Go.Proofs.Ytihdmdbekdadlaa
open Go.RowKit
set_option linter.unusedVariables false
set_option maxRecDepth 100000

set_option maxHeartbeats 1000000 in
theorem chance_any (b : Nat) (t n : Int) (w : World) (h : SrcOk w b t) (ht : 0 ≤ t) (ht2 : t ≤ 1000000) (hn : 1 ≤ n) (hn2 : n ≤ 1048576) :
    Calls Try.prog 34 #[.pointer (some ⟨b, 0, none⟩), .int .i64 n] w fun e w' => (∃ v, e = .returned (.bool v)) ∧ SrcOk w' b (t + 1) ∧ w.grownBy w' (some b) := by
  have HN := hide (next_any b t n w h ht ht2 hn hn2)
  clear h
  go_enter Try.func34, Try.ntmps34
  go_wp2_with fail
  refine (unhide HN).mono ?_
  rintro e w1 ⟨⟨v, rfl, hv0, hv1⟩, s1, g1⟩
  go_wp2_with fail
  go_ret
  exact ⟨⟨_, rfl⟩, s1, g1⟩

end Go.Proofs.Ytihdmdbekdadlaa

/- What is proved here: the model's draws of bytes and numbers return, write into no memory that was there, and give bytes of bounded length. -/
namespace Go.Proofs.Ytihdmdbekdadlaa
open Go.RowKit
set_option linter.unusedVariables false
set_option maxRecDepth 100000

set_option maxHeartbeats 1000000 in
theorem some_any (b : Nat) (t : Int) (n : Nat) (w : World) (h : SrcOk w b t) (ht : 0 ≤ t) (ht2 : t ≤ 100000) (hn2 : n ≤ 400) :
    Calls Try.prog 35 #[.pointer (some ⟨b, 0, none⟩), .int .i64 (n : Int)] w fun e w' => ∃ (g cap : Nat) (zs : List Int), e = .returned (.slice (some ⟨g, 0, none⟩) n cap) ∧ zs.length = n ∧ (∀ x ∈ zs, 0 ≤ x ∧ x ≤ 255) ∧
      w'.ownsRow w.heap.size 5 1 (.slice (some ⟨g, 0, none⟩) n cap) n (zs.map (Value.int .u8)) ∧ SrcOk w' b (t + n) ∧ w.grownBy w' (some b) := by
  obtain ⟨i0, hi, hz0, hz1, hz2⟩ := info_parts info5
  have hbl := h.lt
  have HH := hide h
  clear h
  go_enter Try.func35, Try.ntmps35
  go_wp2_with fail
  go_loopw [1, 5] (fun i v wr => ∃ (k g cap : Nat) (zs : List Int), k ≤ n ∧ i = .int .i64 ((n : Int) - k) ∧ v = .slice (some ⟨g, 0, none⟩) k cap ∧ zs.length = k ∧ (∀ x ∈ zs, 0 ≤ x ∧ x ≤ 255) ∧
      wr.ownsRow w.heap.size 5 1 (.slice (some ⟨g, 0, none⟩) k cap) k (zs.map (Value.int .u8)) ∧ SrcOk wr b (t + k) ∧ w.grownBy wr (some b)) (fun i _ _ => (intOf i).toNat)
  case atStart =>
    refine ⟨0, w.heap.size, 0, [], Nat.zero_le _, by simp, rfl, rfl, fun x hx => by simp at hx, ?_, ?_, World.grownBy_alloc w _ _⟩
    · exact World.ownsRow_lit w #[] 0 (Nat.le_refl _) (by unfold maxLen; omega) rfl
    · simpa using (unhide HH).below (below_alloc w _) (Nat.le_refl _)
  case round =>
    obtain ⟨k, g, cap, zs, hk, rfl, rfl, hzl, hzr, hown, hsrc, hgr⟩ := hrel
    clear HH
    by_cases hlt : k < n
    · have hsz := hgr.size
      have HN := hide (next_any b (t + k) 256 wr hsrc (by omega) (by omega) (by omega) (by omega))
      have HG := hide hgr
      have HZ := hide hzr
      clear hsrc hgr hzr
      go_wp2_with fail
      refine (unhide HN).mono ?_
      rintro e w1 ⟨⟨v, rfl, hv0, hv1⟩, hsrc1, hg1⟩
      have hown1 : w1.ownsRow w.heap.size 5 1 (.slice (some ⟨g, 0, none⟩) k cap) k (zs.map (Value.int .u8)) := hown.kept hg1 (by
        refine .inr (fun e => ?_)
        have h1 := (hown.lt g rfl).1
        simp [Value.ownBlock] at e
        omega)
      have hsz1 := hg1.size
      clear HN
      go_wp2_with (at_builtin; refine wpList_append_own _ rfl _ _ 22 rfl w.heap.size 5 i0 (.int .u8 0) 1 1 Try.underlying22 hi hz0 hz1 hz2 rfl (by decide) _ _ _ rfl (hown1.alloc _) ⟨w1.heap.size, 0, none⟩ 1 1 [.int .u8 v] rfl rfl ?c1 ?c2 ?c3 ?c4 ?c5 ?_)
      case c1 => exact cell_one_new _ _ _
      case c2 => intro u hu; simp at hu; subst hu; rfl
      case c3 => unfold maxLen; omega
      case c4 => omega
      case c5 => simp; omega
      intro v' w2 hown2 hgrow _
      obtain ⟨g2, cap2, hvv⟩ := own_some hown2 (by omega)
      have hrow : ∀ q, (Value.slice (some ⟨g, 0, none⟩) k cap).ownBlock = some q → w.heap.size ≤ q := fun q e => (hown.lt q e).1
      have hs2 : SrcOk w2 b (t + ((k + 1 : Nat) : Int)) := by
        rw [show t + ((k + 1 : Nat) : Int) = t + k + 1 from by omega]
        exact (hsrc1.below (below_alloc w1 _) (Nat.le_refl _)).grown hgrow (fun q e => by have := hrow q e; omega)
      have hg2 : w.grownBy w2 (some b) := by
        have hga := World.grownBy_alloc w1 (Obj.cells #[Value.int IntKind.u8 v] 5) (some b)
        have h01 := grownBy_trans (grownBy_trans (unhide HG) hg1) hga
        refine ⟨hgrow.os.trans h01.os, hgrow.tape.trans h01.tape, hgrow.output.trans h01.output, Nat.le_trans h01.size hgrow.size, fun q hq hne => ?_⟩
        rw [hgrow.block q (Nat.lt_of_lt_of_le hq h01.size) (fun e => by have := hrow q e.symm; omega)]
        exact h01.block q hq hne
      rw [hvv] at hown2
      rw [hvv]
      have HO := hide hown2
      have HS2 := hide hs2
      have HG2 := hide hg2
      clear hown2 hs2 hg2 hgrow hown1 hown hrow hsrc1 hg1 hvv
      go_wp2_with fail
      go_roundw
      case rel =>
        refine ⟨k + 1, g2, cap2, zs ++ [v], by omega, by go_num, rfl, by simp [hzl], ?_, by simpa using unhide HO, unhide HS2, unhide HG2⟩
        intro x hx
        rcases List.mem_append.1 hx with hx | hx
        · exact (unhide HZ) x hx
        · simp at hx; omega
      case measure => simp [intOf]; omega
    · obtain rfl : k = n := by omega
      have HO := hide hown
      have HS := hide hsrc
      have HG := hide hgr
      clear hown hsrc hgr
      go_wp2_with fail
      go_ret
      exact ⟨g, cap, zs, rfl, hzl, hzr, unhide HO, unhide HS, unhide HG⟩

end Go.Proofs.Ytihdmdbekdadlaa

/- What is proved here: the model's draw of a word, and rows of numbers while something else is written. -/
namespace Go.Proofs.Ytihdmdbekdadlaa
open Go.RowKit
set_option linter.unusedVariables false
set_option maxRecDepth 100000

theorem IRow.grown {w w' : World} {g off n : Nat} {zs : List Int} {row : Option Nat} (h : IRow w (some ⟨g, off, none⟩) n zs) (hg : w.grownBy w' row) (hr : row ≠ some g) : IRow w' (some ⟨g, off, none⟩) n zs := by
  refine ⟨h.1, h.2.1, h.2.2.1, fun x hx i hi => ?_⟩
  have hc := h.2.2.2 x hx i hi
  cases hx
  rw [add_none] at hc ⊢
  exact hg.cell hc (fun e => hr e.symm)

theorem IRow.sub {w : World} {b off n : Nat} {bs : List Int} (h : IRow w (some ⟨b, off, none⟩) n bs) (p m : Nat) (hp : p + m ≤ n) : IRow w (some ⟨b, off + p, none⟩) m ((bs.drop p).take m) := by
  have hl := h.1
  refine ⟨by simp; omega, trivial, fun e => (by cases e), fun x hx i hi => ?_⟩
  cases hx
  have := h.2.2.2 _ rfl (p + i) (by omega)
  rw [add_none] at this ⊢
  rw [Nat.add_assoc, this, List.getD_eq_getElem?_getD, List.getD_eq_getElem?_getD, List.getElem?_take_of_lt (by omega), List.getElem?_drop]

theorem cells_list {w : World} (L : List Int) (t : TypeId) : ∀ i, i < L.length → (w.alloc (Obj.cells (L.map (Value.int .i64)).toArray t)).cell? ⟨w.heap.size, i, none⟩ = some (.int .i64 (L.getD i 0)) := by
  intro i hi
  rw [World.cell?_alloc_new]
  simp [hi]

end Go.Proofs.Ytihdmdbekdadlaa

/- What is proved here: the model's draws of paths return: some numbers and whether it is an end, in new memory. -/
namespace Go.Proofs.Ytihdmdbekdadlaa
open Go.RowKit
set_option linter.unusedVariables false
set_option maxRecDepth 100000

/-- What a draw of a path answers. -/
def Dp (e : Ending) (w' : World) : Prop := ∃ (s : Option Addr) (m c : Nat) (zs : List Int) (E : Bool), e = .returned (.tuple #[.slice s m c, .bool E]) ∧ IRow w' s m zs ∧ m ≤ 100 ∧ (s = none → c = 0)

set_option maxHeartbeats 2000000 in
theorem drawPP_any (a : Option Addr) (len cap : Nat) (xs : List Int) (w : World) (h : BRow w a len xs) (hl : len ≤ 1048576) :
    Calls Try.prog 13 #[.slice a len cap] w fun e w' => Dp e w' ∧ Below w.heap.size w w' := by
  obtain ⟨i0, hi, hz0, hz1, hz2⟩ := info_parts info2
  go_enter Try.func13, Try.ntmps13
  go_wp2_with fail
  refine (source_any a len cap xs w h hl).mono ?_
  rintro e w1 ⟨rfl, s1, b1⟩
  have l1 := s1.lt
  have o1 : (w1.alloc (.cells #[] 2)).ownsRow (w.heap.size + 1) 2 1 (.slice (some ⟨w1.heap.size, 0, none⟩) 0 0) 0 (([] : List Int).map (Value.int .i64)) := World.ownsRow_lit w1 #[] 0 (by omega) (by unfold maxLen; omega) rfl
  have s1a := s1.below (below_alloc w1 (.cells #[] 2)) (Nat.le_refl _)
  have b1a := b1.alloc b1.size (.cells #[] 2)
  have HO := hide o1
  have HB := hide b1a
  have l1a : w1.heap.size < (w1.alloc (.cells #[] 2)).heap.size := by simp
  clear o1 b1a s1 b1 h
  go_wp2_with fail
  generalize w1.alloc (.cells #[] 2) = w2 at *
  refine (next_any w.heap.size 0 7 w2 s1a (by omega) (by omega) (by omega) (by omega)).mono ?_
  rintro e w3 ⟨⟨v, rfl, hv0, hv1⟩, s3, g3⟩
  obtain ⟨n, rfl⟩ := Int.eq_ofNat_of_zero_le hv0
  have hn : n ≤ 6 := by omega
  have o3 := (unhide HO).kept g3 (.inr (fun e => by have := ((unhide HO).lt _ rfl).1; simp [Value.ownBlock] at e; omega))
  have b3 := grown_below (unhide HB) g3 (unhide HB).size (Nat.le_refl _)
  have HO3 := hide o3
  have HB3 := hide b3
  have HS3 := hide s3
  have l3 : w1.heap.size < w3.heap.size := Nat.lt_of_lt_of_le l1a g3.size
  clear o3 b3 g3 s3 HO HB s1a hv0 hv1
  go_wp2_with fail
  go_loopw [5, 6] (fun v i wr => ∃ (k : Nat) (da : Option Addr) (dc : Nat) (zs : List Int), k ≤ n ∧ i = .int .i64 ((n : Int) - k) ∧ v = .slice da k dc ∧ wr.ownsRow (w.heap.size + 1) 2 1 (.slice da k dc) k (zs.map (Value.int .i64)) ∧ SrcOk wr w.heap.size (1 + k) ∧ Below w.heap.size w wr ∧ w.heap.size < wr.heap.size) (fun _ i _ => (intOf i).toNat)
  case atStart => exact ⟨0, _, _, [], Nat.zero_le _, by simp, rfl, unhide HO3, by simpa using unhide HS3, unhide HB3, by omega⟩
  case round =>
    obtain ⟨k, da, dc, zs, hk, rfl, rfl, hown, hsrc, hbel, hwl⟩ := hrel
    clear HO3 HB3 HS3
    by_cases hlt : k < n
    · have HN := hide (next_any w.heap.size (1 + k) 16 wr hsrc (by omega) (by omega) (by omega) (by omega))
      have HBE := hide hbel
      clear hbel hsrc
      go_wp2_with fail
      refine (unhide HN).mono ?_
      rintro e w4 ⟨⟨v, rfl, hv0, hv1⟩, s4, g4⟩
      have o4 := hown.kept g4 (.inr (fun e => by cases hd : (Value.slice da k dc).ownBlock with
        | none => rw [hd] at e; cases e
        | some q => rw [hd] at e; have := (hown.lt q hd).1; have := Option.some.inj e; omega))
      have b4 := grown_below (unhide HBE) g4 (unhide HBE).size (Nat.le_refl _)
      have hw4 : w.heap.size < w4.heap.size := Nat.lt_of_lt_of_le hwl g4.size
      have HB4 := hide b4
      have HS4 := hide s4
      clear HN b4 s4 g4 HBE
      go_wp2_with (at_builtin; refine wpList_append_own _ rfl _ _ 25 rfl (w.heap.size + 1) 2 i0 (.int .i64 0) 1 8 Try.underlying25 hi hz0 hz1 hz2 rfl (by decide) _ _ _ rfl (o4.alloc _) ⟨w4.heap.size, 0, none⟩ 1 1 [.int .i64 v] rfl rfl ?c1 ?c2 ?c3 ?c4 ?c5 ?_)
      case c1 => exact cell_one_new _ _ _
      case c2 => intro u hu; simp at hu; subst hu; rfl
      case c3 => unfold maxLen; omega
      case c4 => omega
      case c5 => simp; omega
      intro v5 w5 o5 g5 _
      obtain ⟨a5, c5, hv5⟩ := own_shape o5
      have b5 : Below w.heap.size w w5 := ((unhide HB4).alloc (unhide HB4).size _).grown g5 (by simp; omega) (fun q e => by have := (o4.lt q e).1; omega)
      have s5 : SrcOk w5 w.heap.size (1 + ((k + 1 : Nat) : Int)) := by
        rw [show 1 + ((k + 1 : Nat) : Int) = 1 + k + 1 from by omega]
        exact ((unhide HS4).below (below_alloc w4 _) (Nat.le_refl _)).grown g5 (fun q e => by have := (o4.lt q e).1; omega)
      have l5 : w.heap.size < w5.heap.size := Nat.lt_of_lt_of_le hw4 (Nat.le_trans (by simp) g5.size)
      rw [hv5] at o5
      rw [hv5]
      have HO5 := hide o5
      have HB5 := hide b5
      have HS5 := hide s5
      clear o5 b5 s5 g5 hv5 HB4 HS4 o4 hown
      go_wp2_with fail
      go_roundw
      case rel => exact ⟨k + 1, a5, c5, zs ++ [v], by omega, by go_num, rfl, by simpa using unhide HO5, unhide HS5, unhide HB5, l5⟩
      case measure => simp [intOf]; omega
    · obtain rfl : k = n := by omega
      have HN := hide (next_any w.heap.size (1 + k) 10 wr hsrc (by omega) (by omega) (by omega) (by omega))
      have HBE := hide hbel
      clear hbel hsrc
      go_wp2_with fail
      refine (unhide HN).mono ?_
      rintro e w4 ⟨⟨v, rfl, hv0, hv1⟩, s4, g4⟩
      have o4 := hown.kept g4 (.inr (fun e => by cases hd : (Value.slice da k dc).ownBlock with
        | none => rw [hd] at e; cases e
        | some q => rw [hd] at e; have := (hown.lt q hd).1; have := Option.some.inj e; omega))
      have b4 := grown_below (unhide HBE) g4 (unhide HBE).size (Nat.le_refl _)
      have hw4 : w.heap.size < w4.heap.size := Nat.lt_of_lt_of_le hwl g4.size
      have HB4 := hide b4
      have HS4 := hide s4
      have HO4 := hide o4
      clear HN b4 s4 g4 HBE o4 hown
      by_cases h0 : v = 0
      · subst h0
        go_wp2_with fail
        refine (pick_any w.heap.size w4.heap.size 2 [16, -1] (1 + k + 1) _ ((unhide HS4).below (below_alloc w4 _) (Nat.le_refl _)) (by omega) (by omega) (by omega) (by omega) (by omega) rfl (cells_list [16, -1] 2)).mono ?_
        rintro e w5 ⟨⟨v, rfl, hv⟩, s5, g5⟩
        have o5 := ((unhide HO4).alloc (.cells #[.int .i64 16, .int .i64 (-1)] 2)).kept g5 (.inr (fun e => by cases hd : (Value.slice da k dc).ownBlock with
          | none => rw [hd] at e; cases e
          | some q => rw [hd] at e; have := ((unhide HO4).lt q hd).1; have := Option.some.inj e; omega))
        have b5 := grown_below ((unhide HB4).alloc (unhide HB4).size (.cells #[.int .i64 16, .int .i64 (-1)] 2)) g5 (by simp; omega) (Nat.le_refl _)
        have hw5 : w.heap.size < w5.heap.size := Nat.lt_of_lt_of_le hw4 (Nat.le_trans (by simp) g5.size)
        have HB5 := hide b5
        have HS5 := hide s5
        clear b5 s5 g5 HB4 HS4 HO4 hv
        go_wp2_with (at_builtin; refine wpList_append_own _ rfl _ _ 25 rfl (w.heap.size + 1) 2 i0 (.int .i64 0) 1 8 Try.underlying25 hi hz0 hz1 hz2 rfl (by decide) _ _ _ rfl (o5.alloc _) ⟨w5.heap.size, 0, none⟩ 1 1 [.int .i64 v] rfl rfl ?c1 ?c2 ?c3 ?c4 ?c5 ?_)
        case c1 => exact cell_one_new _ _ _
        case c2 => intro u hu; simp at hu; subst hu; rfl
        case c3 => unfold maxLen; omega
        case c4 => omega
        case c5 => simp; omega
        intro v6 w6 o6 g6 _
        obtain ⟨a6, c6, hv6⟩ := own_shape o6
        have b6 : Below w.heap.size w w6 := ((unhide HB5).alloc (unhide HB5).size _).grown g6 (by simp; omega) (fun q e => by have := (o5.lt q e).1; omega)
        have s6 := ((unhide HS5).below (below_alloc w5 _) (Nat.le_refl _)).grown g6 (fun q e => by have := (o5.lt q e).1; omega)
        rw [hv6] at o6
        rw [hv6]
        have O6 : w6.ownsRow (w.heap.size + 1) 2 1 (.slice a6 (k + 1) c6) (k + 1) ((zs ++ [v]).map (Value.int .i64)) := by simpa using o6
        have HO6 := hide O6
        have HB6 := hide b6
        have HS6 := hide s6
        clear o6 O6 b6 s6 g6 hv6 HB5 HS5 o5
        go_wp2_with fail
        refine (chance_any w.heap.size (1 + k + 1 + 1) 2 w6 (unhide HS6) (by omega) (by omega) (by omega) (by omega)).mono ?_
        rintro e w9 ⟨⟨E, rfl⟩, s9, g9⟩
        have o9 := (unhide HO6).kept g9 (.inr (fun e => by cases hd : (Value.slice a6 (k + 1) c6).ownBlock with
          | none => rw [hd] at e; cases e
          | some q => rw [hd] at e; have := ((unhide HO6).lt q hd).1; have := Option.some.inj e; omega))
        have b9 := grown_below (unhide HB6) g9 (unhide HB6).size (Nat.le_refl _)
        have HO9 := hide o9
        have HB9 := hide b9
        clear o9 b9 g9 s9
        go_wp2_with fail
        go_ret2
        exact ⟨⟨_, _, _, zs ++ [v], E, rfl, IRow.own2 (unhide HO9), by omega, own_cap (unhide HO9)⟩, unhide HB9⟩
      · have h0b : (v == 0) = false := by simp [h0]
        by_cases h1 : v = 1
        · subst h1
          go_wp2_with fail
          refine (pick_any w.heap.size w4.heap.size 2 [20, 21] (1 + k + 1) _ ((unhide HS4).below (below_alloc w4 _) (Nat.le_refl _)) (by omega) (by omega) (by omega) (by omega) (by omega) rfl (cells_list [20, 21] 2)).mono ?_
          rintro e w5 ⟨⟨v, rfl, hv⟩, s5, g5⟩
          have b5 := grown_below ((unhide HB4).alloc (unhide HB4).size (.cells #[.int .i64 20, .int .i64 21] 2)) g5 (by simp; omega) (Nat.le_refl _)
          have hw5 : w.heap.size < w5.heap.size := Nat.lt_of_lt_of_le hw4 (Nat.le_trans (by simp) g5.size)
          have HB5 := hide b5
          have HS5 := hide s5
          have hv2 : 20 ≤ v ∧ v ≤ 21 := by simp only [List.mem_cons, List.not_mem_nil, or_false] at hv; omega
          obtain ⟨m, rfl⟩ := Int.eq_ofNat_of_zero_le (by omega : 0 ≤ v)
          have hm : 20 ≤ m ∧ m ≤ 21 := by omega
          clear b5 s5 g5 HB4 HS4 HO4 hv hv2
          go_wp2_with (at_make; refine wpList_make_full _ rfl _ _ 25 rfl w5.heap.size 2 i0 (.int .i64 0) 1 Try.underlying25 hi hz0 hz1 _ _ _ _ m rfl rfl rfl rfl ?c1 ?c2 ?c3 ?_)
          case c1 => rw [hz2]; omega
          case c2 => unfold maxLen; omega
          case c3 => simp
          intro w6 hown hgrow
          rw [toList_madeCells_one] at hown
          have O6 : w6.ownsRow (w.heap.size + 1) 2 1 (.slice (some ⟨w5.heap.size, 0, none⟩) m m) m ((List.replicate m (0 : Int)).map (Value.int .i64)) := by rw [List.map_replicate]; exact ownsRow_base hown (by omega)
          have b6 : Below w.heap.size w w6 := (unhide HB5).grown hgrow (unhide HB5).size (fun q e => by cases e)
          have s6 := (unhide HS5).grown hgrow (fun q e => by cases e)
          have HO6 := hide O6
          have HB6 := hide b6
          have HS6 := hide s6
          clear hown O6 b6 s6 hgrow HB5 HS5
          go_wp2_with fail
          refine (chance_any w.heap.size (1 + k + 1 + 1) 2 w6 (unhide HS6) (by omega) (by omega) (by omega) (by omega)).mono ?_
          rintro e w9 ⟨⟨E, rfl⟩, s9, g9⟩
          have o9 := (unhide HO6).kept g9 (.inr (fun e => by cases hd : (Value.slice (some ⟨w5.heap.size, 0, none⟩) m m).ownBlock with
            | none => rw [hd] at e; cases e
            | some q => rw [hd] at e; have := ((unhide HO6).lt q hd).1; have := Option.some.inj e; omega))
          have b9 := grown_below (unhide HB6) g9 (unhide HB6).size (Nat.le_refl _)
          have HO9 := hide o9
          have HB9 := hide b9
          clear o9 b9 g9 s9
          go_wp2_with fail
          go_ret2
          exact ⟨⟨_, _, _, List.replicate m (0 : Int), E, rfl, IRow.own2 (unhide HO9), by omega, own_cap (unhide HO9)⟩, unhide HB9⟩
        · have h1b : (v == 1) = false := by simp [h1]
          go_wp2_with fail
          refine (chance_any w.heap.size (1 + k + 1) 2 w4 (unhide HS4) (by omega) (by omega) (by omega) (by omega)).mono ?_
          rintro e w9 ⟨⟨E, rfl⟩, s9, g9⟩
          have o9 := (unhide HO4).kept g9 (.inr (fun e => by cases hd : (Value.slice da k dc).ownBlock with
            | none => rw [hd] at e; cases e
            | some q => rw [hd] at e; have := ((unhide HO4).lt q hd).1; have := Option.some.inj e; omega))
          have b9 := grown_below (unhide HB4) g9 (unhide HB4).size (Nat.le_refl _)
          have HO9 := hide o9
          have HB9 := hide b9
          clear o9 b9 g9 s9
          go_wp2_with fail
          go_ret2
          exact ⟨⟨_, _, _, zs, E, rfl, IRow.own2 (unhide HO9), by omega, own_cap (unhide HO9)⟩, unhide HB9⟩

end Go.Proofs.Ytihdmdbekdadlaa

/- What is proved here: the model's draw of bytes that may be those of a path returns some bytes, in new memory. -/
namespace Go.Proofs.Ytihdmdbekdadlaa
open Go.RowKit
set_option linter.unusedVariables false
set_option maxRecDepth 100000

/-- What a draw of bytes answers. -/
def Db (e : Ending) (w' : World) : Prop := ∃ (s : Option Addr) (m c : Nat) (zs : List Int), e = .returned (.slice s m c) ∧ BRow w' s m zs ∧ m ≤ 100 ∧ (s = none → c = 0)

theorem BRow.grownX {w w' : World} {a : Option Addr} {n : Nat} {zs : List Int} {row : Option Nat} (h : BRow w a n zs) (hg : w.grownBy w' row) (hr : ∀ x, a = some x → row ≠ some x.block) : BRow w' a n zs := by
  refine ⟨h.1, h.2.1, h.2.2.1, fun x hx i hi => ?_⟩
  have hbl : (x.add i).block = x.block := by unfold Addr.add; split <;> rfl
  exact hg.cell (h.2.2.2 x hx i hi) (by rw [hbl]; exact fun e => hr x hx e.symm)

set_option maxHeartbeats 2000000 in
theorem drawUP_any (a : Option Addr) (len cap : Nat) (xs : List Int) (w : World) (h : BRow w a len xs) (hl : len ≤ 1048576) :
    Calls Try.prog 8 #[.slice a len cap] w fun e w' => Db e w' ∧ Below w.heap.size w w' := by
  have HX := hide h
  go_enter Try.func8, Try.ntmps8
  go_wp2_with fail
  refine (source_any a len cap xs w h hl).mono ?_
  rintro e w1 ⟨rfl, s1, b1⟩
  have l1 := s1.lt
  clear h
  go_wp2_with fail
  refine (drawPP_any a len cap xs w1 ((unhide HX).below b1 (Nat.le_refl _)) hl).mono ?_
  rintro e w2 ⟨⟨s, m, c, zs, E, rfl, r2, hm, hc⟩, b2⟩
  have s2 := s1.below b2 (Nat.le_refl _)
  have B2 := b1.trans (b2.mono b1.size)
  have l2 := b2.size
  clear b1 b2 s1
  go_wp2_with fail
  refine (specPack_any s m c zs E w2 r2 hc (by omega)).mono ?_
  rintro e w3 ⟨a3, c3, rfl, o3, b3⟩
  have hpl := ppB_length zs E
  have hpr := ppB_range zs E
  have r3 := BRow.own2 o3 hpr
  have hc3 := own_cap o3
  have HA3 : Hid (∀ x, a3 = some x → some w.heap.size ≠ some x.block) := fun x hx e => by have := (OwnS.of o3).blk hx; have := Option.some.inj e; omega
  have s3 := s2.below b3 (Nat.le_refl _)
  have B3 := B2.trans (b3.mono B2.size)
  have l3 := b3.size
  generalize ppB zs E = P at *
  generalize ppCode zs = C at *
  have HR3 := hide r3
  have HB3 := hide B3
  have HS3 := hide s3
  have HC3 := hide hc3
  clear r3 B3 s3 hc3 o3 b3 r2 B2 s2 hpr HX
  have HS3a : Hid (∀ o, SrcOk (w3.alloc o) w.heap.size 0) := fun o => (unhide HS3).below (below_alloc w3 o) (Nat.le_refl _)
  have HB3a : Hid (∀ o, Below w.heap.size w (w3.alloc o)) := fun o => (unhide HB3).alloc (unhide HB3).size o
  have HR3a : Hid (∀ o, BRow (w3.alloc o) a3 P.length P) := fun o => (unhide HR3).below (below_alloc w3 o) (Nat.le_refl _)
  by_cases h0 : C = 0
  · have h0b : (C == 0) = true := by simp [h0]
    subst h0
    obtain ⟨p0, p1, p2, p3⟩ := new2 w3 (.int .i64 0) (.slice a3 P.length c3) 31
    have HP0 := hide p0
    have HP2 := hide p2
    have HP3 := hide p3
    have l4 : w3.heap.size < (w3.alloc (.cells #[.int .i64 0, .slice a3 P.length c3] 31)).heap.size := p1
    have HSx := hide ((unhide HS3a) (.cells #[.int .i64 0, .slice a3 P.length c3] 31))
    have HBx := hide ((unhide HB3a) (.cells #[.int .i64 0, .slice a3 P.length c3] 31))
    have HRx := hide ((unhide HR3a) (.cells #[.int .i64 0, .slice a3 P.length c3] 31))
    clear p0 p1 p2 p3 HS3a HB3a HR3a HS3 HB3 HR3
    go_wp2_with fail
    generalize w3.alloc (.cells #[.int .i64 0, .slice a3 P.length c3] 31) = w4 at *
    refine (chance_any w.heap.size 0 4 w4 (unhide HSx) (by omega) (by omega) (by omega) (by omega)).mono ?_
    rintro e w5 ⟨⟨v, rfl⟩, s5, g5⟩
    have b5 := grown_below (unhide HBx) g5 (unhide HBx).size (Nat.le_refl _)
    have r5 := (unhide HRx).grownX g5 (unhide HA3)
    have q0 := g5.cell (unhide HP2) (fun e => by have := Option.some.inj e; simp only at this; omega)
    have q1 := g5.cell (unhide HP3) (fun e => by have := Option.some.inj e; simp only at this; omega)
    have HB5 := hide b5
    have HR5 := hide r5
    have HS5 := hide s5
    clear b5 r5 s5 g5 HP0 HP2 HP3 HSx HBx HRx HA3
    cases v
    · go_wp2_with fail
      go_ret
      exact ⟨⟨_, _, _, P, rfl, unhide HR5, by omega, unhide HC3⟩, unhide HB5⟩
    · go_wp2_with fail
      refine (next_any w.heap.size (0 + 1) 5 w5 (unhide HS5) (by omega) (by omega) (by omega) (by omega)).mono ?_
      rintro e w6 ⟨⟨v, rfl, hv0, hv1⟩, s6, g6⟩
      have b6 := grown_below (unhide HB5) g6 (unhide HB5).size (Nat.le_refl _)
      obtain ⟨k, rfl⟩ := Int.eq_ofNat_of_zero_le hv0
      have HB6 := hide b6
      have HS6 := hide s6
      clear b6 s6 g6
      go_wp2_with fail
      refine (some_any w.heap.size _ k w6 (unhide HS6) (by omega) (by omega) (by omega)).mono ?_
      rintro e w7 ⟨g7, c7, ys, rfl, hyl, hyr, o7, s7, g7'⟩
      have b7 := grown_below (unhide HB6) g7' (unhide HB6).size (Nat.le_refl _)
      have HB7 := hide b7
      have HO7 := hide o7
      clear b7 s7 g7' o7 HB6 HS6
      go_wp2_with fail
      go_ret
      exact ⟨⟨_, _, _, ys, rfl, BRow.own2 (unhide HO7) hyr, by omega, own_cap (unhide HO7)⟩, unhide HB7⟩
  · have h0b : (C == 0) = false := by simp [h0]
    go_wp2_with fail
    have l4 : w3.heap.size < (w3.alloc (.cells #[.int .i64 C, .slice a3 P.length c3] 31)).heap.size := by simp
    have HSx := hide ((unhide HS3a) (.cells #[.int .i64 C, .slice a3 P.length c3] 31))
    have HBx := hide ((unhide HB3a) (.cells #[.int .i64 C, .slice a3 P.length c3] 31))
    clear HS3a HB3a HR3a HS3 HB3 HR3
    generalize w3.alloc (.cells #[.int .i64 C, .slice a3 P.length c3] 31) = w4 at *
    refine (next_any w.heap.size 0 5 w4 (unhide HSx) (by omega) (by omega) (by omega) (by omega)).mono ?_
    rintro e w6 ⟨⟨v, rfl, hv0, hv1⟩, s6, g6⟩
    have b6 := grown_below (unhide HBx) g6 (unhide HBx).size (Nat.le_refl _)
    obtain ⟨k, rfl⟩ := Int.eq_ofNat_of_zero_le hv0
    have HB6 := hide b6
    have HS6 := hide s6
    clear b6 s6 g6
    go_wp2_with fail
    refine (some_any w.heap.size _ k w6 (unhide HS6) (by omega) (by omega) (by omega)).mono ?_
    rintro e w7 ⟨g7, c7, ys, rfl, hyl, hyr, o7, s7, g7'⟩
    have b7 := grown_below (unhide HB6) g7' (unhide HB6).size (Nat.le_refl _)
    have HB7 := hide b7
    have HO7 := hide o7
    clear b7 s7 g7' o7 HB6 HS6
    go_wp2_with fail
    go_ret
    exact ⟨⟨_, _, _, ys, rfl, BRow.own2 (unhide HO7) hyr, by omega, own_cap (unhide HO7)⟩, unhide HB7⟩

end Go.Proofs.Ytihdmdbekdadlaa

/- What is proved here: what the fields of a BytesResult that lies as one value are. -/
namespace Go.Proofs.Ytihdmdbekdadlaa
open Go.RowKit
set_option linter.unusedVariables false
set_option maxRecDepth 100000

theorem fldB0 (x y : Value) (w : World) : (Instr.field 31 (.agg #[x, y]) 0).run Try.prog w = .ok x w := by kernel_rfl
theorem fldB1 (x y : Value) (w : World) : (Instr.field 31 (.agg #[x, y]) 1).run Try.prog w = .ok y w := by kernel_rfl

end Go.Proofs.Ytihdmdbekdadlaa

/- What is proved here: what the laws' own small functions lwBig and lwSame answer. -/
namespace Go.Proofs.Ytihdmdbekdadlaa
open Go.RowKit
set_option linter.unusedVariables false
set_option maxRecDepth 100000

set_option maxHeartbeats 1000000 in
theorem lwBig_any (a : Option Addr) (len cap : Nat) (w : World) : Calls Try.prog 7 #[.slice a len cap] w fun e w' => e = .returned (.bool (decide (1048576 < (len : Int)))) ∧ w' = w := by
  go_enter Try.func7, Try.ntmps7
  go_wp2
  go_ret
  exact ⟨rfl, rfl⟩

theorem lwSame_any (a b : Option Addr) (la ca lb cb : Nat) (xs ys : List Int) (w : World) (ha : BRow w a la xs) (hb : BRow w b lb ys) :
    Calls Try.prog 10 #[.slice a la ca, .slice b lb cb] w fun e w' => e = .returned (.bool (strEq xs ys)) ∧ w' = w := by
  have h1 := conv_any (P := Try.prog) w 22 5 9 Try.underlying22 Try.underlying5 Try.underlying9 a la ca xs ha
  have h2 := conv_any (P := Try.prog) w 22 5 9 Try.underlying22 Try.underlying5 Try.underlying9 b lb cb ys hb
  clear ha hb
  go_enter Try.func10, Try.ntmps10
  go_wp2
  go_ret
  exact ⟨rfl, rfl⟩

end Go.Proofs.Ytihdmdbekdadlaa

/- What is proved here: what lwNums answers, for slices of at most 2^20 numbers. -/
namespace Go.Proofs.Ytihdmdbekdadlaa
open Go.RowKit
set_option linter.unusedVariables false
set_option maxRecDepth 100000

set_option maxHeartbeats 400000 in
theorem lwNums_any (a b : Option Addr) (la ca lb cb : Nat) (xs ys : List Int) (w : World) (ha : IRow w a la xs) (hb : IRow w b lb ys) (hl : la ≤ 1048576) (hl2 : lb ≤ 1048576) :
    Calls Try.prog 15 #[.slice a la ca, .slice b lb cb] w fun e w' => e = .returned (.bool (sameB xs ys)) ∧ ∃ n, w' = w.drewN n := by
  have hxl := ha.1
  have hyl := hb.1
  by_cases hne : la = lb
  · subst hne
    have hlen : (((la : Nat) : Int) != ((la : Nat) : Int)) = false := by simp
    rcases Nat.eq_zero_or_pos la with h0 | hp
    · subst h0
      have hx : xs = [] := List.length_eq_zero_iff.1 hxl
      have hy : ys = [] := List.length_eq_zero_iff.1 hyl
      subst hx hy
      clear ha hb
      go_enter Try.func15, Try.ntmps15
      go_wp2
      refine wp_loop_rounds 1 ?_
      rw [rounds_succ]
      go_wp2
      go_ret
      exact ⟨rfl, 0, rfl⟩
    · obtain ⟨ba, oa, rfl, hba, hca⟩ := ha.at hp
      obtain ⟨bb, ob, rfl, hbb, hcb⟩ := hb.at hp
      have HCA := hide hca
      have HCB := hide hcb
      clear ha hb hca hcb
      go_enter Try.func15, Try.ntmps15
      go_wp2
      go_loopw [5] (fun i wr => ∃ k n : Nat, k ≤ la ∧ i = .int .i64 k ∧ xs.take k = ys.take k ∧ wr = w.drewN n)
        (fun i _ => la - (intOf i).toNat)
      case atStart => exact ⟨0, 0, Nat.zero_le _, rfl, rfl, rfl⟩
      case round =>
        obtain ⟨k, n, hk, rfl, hpre, rfl⟩ := hrel
        by_cases hlt : k < la
        · have h1 : w.cell? ⟨ba, oa + k, none⟩ = some (.int .i64 (xs.getD k 0)) := (unhide HCA) k hlt
          have h2 : w.cell? ⟨bb, ob + k, none⟩ = some (.int .i64 (ys.getD k 0)) := (unhide HCB) k hlt
          have Hs := take_same xs ys k (by omega) (by omega) hpre
          have Hd := take_other xs ys k (by omega) (by omega)
          generalize xs.getD k 0 = x at h1 Hs Hd
          generalize ys.getD k 0 = y at h2 Hs Hd
          have HS := hide Hs
          have HD := hide Hd
          have HP := hide hpre
          have i1 : (0 : Int) ≤ (k : Int) := by omega
          have i2 : (k : Int) < (la : Int) := by omega
          clear Hs Hd hpre hxl hyl
          by_cases hxy : x = y
          · subst hxy
            have HT := hide ((unhide HS) rfl)
            clear HS HD HP
            have ht : (x != x) = false := by simp
            go_wp2
            go_quiet (fail)
            go_wp2
            go_roundw
            case rel => exact ⟨k + 1, _, by omega, by go_num, unhide HT, rfl⟩
            case measure => simp [intOf]; omega
          · have ht : (x != y) = true := by simp [hxy]
            go_wp2
            go_quiet (fail)
            go_wp2
            go_ret
            exact ⟨ret_bool ((unhide HD) hxy).symm, _, World.drewN_drewN ..⟩
        · obtain rfl : k = la := by omega
          have e := take_whole xs ys k hxl hyl hpre
          have HE := hide e
          clear e hpre hxl hyl
          go_wp2
          go_ret
          exact ⟨ret_bool (unhide HE).symm, n, rfl⟩
  · have hlen : (((la : Nat) : Int) != ((lb : Nat) : Int)) = true := by simp; omega
    have e : sameB xs ys = false := by
      unfold sameB
      rw [beq_eq_false_iff_ne]
      intro e; rw [e] at hxl; omega
    have HE := hide e
    clear e
    go_enter Try.func15, Try.ntmps15
    go_wp2
    go_ret
    exact ⟨ret_bool (unhide HE).symm, 0, rfl⟩

end Go.Proofs.Ytihdmdbekdadlaa
