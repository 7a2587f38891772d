/- What is proved here: bytes appended to a row that the call owns, whatever slice they come from, told in one law for the walk; it holds for every program. -/
import Derived.Test.YtalkhlimkanlcaaJ1
import Derived.Laws.AppendOwnNone
import Derived.WalkLawsBesides
import Derived.Test.YtalkhlimkanlcaaChecked
import Derived.Lib.SliceRun
import Derived.WalkKit
import Derived.WalkSmall
import Derived.WalkSpells
import Derived.KernelRfl
import Derived.Test.YtalkhlimkanlcaaJ4
import Derived.Test.YtalkhlimkanlcaaJ3
import Derived.Maps.AppendAt
import Derived.Deep.RegionHeld3
import Derived.Test.YtalkhlimkanlcaaJ11
namespace Go.Proofs.Ytalkhlimkanlcaa
open Go.RowKit
set_option linter.unusedVariables false
set_option maxRecDepth 100000

theorem wpList_append_brow {P : Program} (w : World) {ops : Array Oper} {rest : List Oper} {o : Oper} {a : Act} {Q : Exit → Act → World → Prop} (hgd : o.guard = none) (s x : Operand) (t : TypeId)
    (ho : o.op = .call { callee := .builtin .append, args := #[s, x], argTypes := #[t, t] }) (base : Nat) (i : TypeInfo) (ht : P.underlying t = some (.slice 5)) (hi : P.info? 5 = some i) (hz : i.zero = some (.int .u8 0)) (hsize : i.size = 1) (hby : i.bytes = 1)
    (v : Value) (n : Nat) (xs : List Int) (hs : a.eval s = v) (hown : w.ownsRow base 5 1 v n (xs.map (Value.int .u8))) (ad : Option Addr) (m c : Nat) (zs : List Int) (hx : a.eval x = .slice ad m c) (hr : BRow w ad m zs) (hc : ad = none → c = 0)
    (h63 : n + m ≤ 1099511627776) (hbase : base ≤ w.heap.size)
    (h : ∀ a' c' w', w'.ownsRow base 5 1 (.slice a' (n + m) c') (n + m) ((xs ++ zs).map (Value.int .u8)) → w.grownBy w' v.ownBlock → wpList P ops Q rest (a.put o.dst (.slice a' (n + m) c')) w') : wpList P ops Q (o :: rest) a w := by
  cases ad with
  | none =>
    obtain rfl : m = 0 := hr.2.2.1 rfl
    obtain rfl : zs = [] := List.length_eq_zero_iff.1 hr.1
    obtain rfl : c = 0 := hc rfl
    refine wpList_append_own_none hgd s x t ho base 5 i 1 ht hi v n _ hs hown hx ?_
    obtain ⟨a', c', hv⟩ := own_shape hown
    have := h a' c' w (by rw [Nat.add_zero, List.append_nil, ← hv]; exact hown) (grownBy_refl w _)
    rw [Nat.add_zero, ← hv] at this
    exact this
  | some ad =>
    refine wpList_append_own w hgd s x t ho base 5 i (.int .u8 0) 1 1 ht hi hz hsize hby rfl (by decide) v n _ hs hown ad m c (zs.map (Value.int .u8)) hx (by simp [hr.1]) ?_ ?_ ?_ ?_ hbase ?_
    · intro j u hj
      have hjl : j < zs.length := by have := (List.getElem?_eq_some_iff.1 hj).1; simpa using this
      rw [hr.2.2.2 ad rfl j (by rw [← hr.1]; exact hjl)]
      rw [List.getElem?_map, List.getElem?_eq_getElem hjl] at hj
      rw [getD_at _ _ hjl]
      exact hj
    · intro u hu; obtain ⟨z, _, rfl⟩ := List.mem_map.1 hu; rfl
    · unfold maxLen; omega
    · omega
    · intro v' w' hown' hg _
      obtain ⟨a', c', hv⟩ := own_shape hown'
      rw [hv] at hown' ⊢
      exact h a' c' w' (by rw [List.map_append]; exact hown') hg

/-- What is owned is no bare nil of some room. -/
theorem own_cap {w : World} {B n cap : Nat} {a : Option Addr} {e : TypeId} {xs : List Value} {size : Nat} (h : w.ownsRow B e size (.slice a n cap) n xs) : a = none → cap = 0 := by
  intro ha
  rcases h.2 with ⟨h', _⟩ | ⟨g, cap', cur, h', _⟩
  · simp only [Value.slice.injEq] at h'; exact h'.2.2
  · simp only [Value.slice.injEq] at h'; rw [ha] at h'; simp at h'

end Go.Proofs.Ytalkhlimkanlcaa

/- What is proved here: what bytes.Clone answers: the same bytes in new memory. -/
namespace Go.Proofs.Ytalkhlimkanlcaa
open Go.RowKit
set_option linter.unusedVariables false
set_option maxRecDepth 100000

set_option maxHeartbeats 1000000 in
theorem clone_any (a : Option Addr) (n cap : Nat) (zs : List Int) (w : World) (h : BRow w a n zs) (hn : n ≤ 1048576) :
    Calls Try.prog 87 #[.slice a n cap] w fun e w' => ∃ (a' : Option Addr) (cap' : Nat), e = .returned (.slice a' n cap') ∧ w'.ownsRow w.heap.size 5 1 (.slice a' n cap') n (zs.map (Value.int .u8)) ∧ Below w.heap.size w w' := by
  obtain ⟨i0, hi, hz0, hz1, hz2⟩ := info_parts info5
  have qT : ∀ (w : World) (a : Option Addr) (n c n' c' : Nat), (binOp .eql 45 (.slice a n c) (.slice none n' c')).run Try.prog w = .ok (.bool a.isNone) w := fun w a n c n' c' => Lib.run_eql_slice_nil w _ _ a n c n' c' Try.underlying45
  have hown0 : (w.alloc (.cells #[] 5)).ownsRow w.heap.size 5 1 (.slice (some ⟨w.heap.size, 0, none⟩) 0 0) 0 (([] : List Int).map (Value.int .u8)) := World.ownsRow_lit w #[] 0 (Nat.le_refl _) (by unfold maxLen; omega) rfl
  have hb := below_alloc w (.cells #[] 5)
  have hr := h.below hb (Nat.le_refl _)
  cases a with
  | none =>
    obtain rfl : n = 0 := h.2.2.1 rfl
    obtain rfl : zs = [] := List.length_eq_zero_iff.1 h.1
    clear h hr hb hown0
    go_enter Try.func87, Try.ntmps87
    go_wp2_with fail
    go_ret
    exact ⟨none, 0, rfl, World.ownsRow_nil _ _ _ _, Below.refl _ _⟩
  | some x =>
    have HR := hide hr
    have HB := hide hb
    clear h hr hb
    go_enter Try.func87, Try.ntmps87
    go_wp2_with (at_builtin; refine wpList_append_brow _ rfl _ _ 45 rfl w.heap.size i0 Try.underlying45 hi hz0 hz1 hz2 _ 0 [] rfl hown0 (some x) n cap zs rfl (unhide HR) (fun e => by cases e) (by omega) (unhide HB).size ?_)
    intro a3 c3 w3 o3 g3
    have B3 : Below w.heap.size w w3 := (unhide HB).grown g3 (unhide HB).size (fun g e => (hown0.lt g e).1)
    have HO := hide o3
    have HB3 := hide B3
    clear o3 g3 B3 hown0
    go_wp2_with fail
    go_ret
    refine ⟨a3, c3, by simp, ?_, unhide HB3⟩
    simpa using unhide HO

end Go.Proofs.Ytalkhlimkanlcaa

/- What is proved here: what slices.Clone answers at a list of slices of bytes: the same slices in a row of its own. -/
namespace Go.Proofs.Ytalkhlimkanlcaa
open Go.RowKit
set_option linter.unusedVariables false
set_option maxRecDepth 100000

/-- The slices of a list that came in. -/
theorem BsRow.slices {w : World} {b off len : Nat} {zss : List (List Int)} (h : BsRow w (some ⟨b, off, none⟩) len zss) :
    ∃ es : List Sl, es.length = len ∧ (∀ i e, es[i]? = some e → w.cell? ⟨b, off + i, none⟩ = some e.v) ∧ ∀ (i : Nat) (e : Sl) (z : List Int), es[i]? = some e → zss[i]? = some z → BRow w e.a e.n z := by
  have key : ∀ k, k ≤ len → ∃ es : List Sl, es.length = k ∧ (∀ i e, es[i]? = some e → w.cell? ⟨b, off + i, none⟩ = some e.v) ∧ ∀ (i : Nat) (e : Sl) (z : List Int), es[i]? = some e → zss[i]? = some z → BRow w e.a e.n z := by
    intro k
    induction k with
    | zero => exact fun _ => ⟨[], rfl, fun i e he => by simp at he, fun i e z he => by simp at he⟩
    | succ k ih =>
      intro hk
      obtain ⟨es, h1, h2, h3⟩ := ih (by omega)
      obtain ⟨z, hz⟩ : ∃ z, zss[k]? = some z := ⟨_, List.getElem?_eq_getElem (by rw [h.1]; omega)⟩
      obtain ⟨b', off', e', hat⟩ := h.2.2 (by omega)
      simp only [Option.some.injEq, Addr.mk.injEq, and_true] at e'
      obtain ⟨rfl, rfl⟩ := e'
      obtain ⟨sa, sl, sc, hc, hr⟩ := hat k z hz
      refine ⟨es ++ [⟨sa, sl, sc⟩], by simp [h1], fun i e he => ?_, fun i e y he hy => ?_⟩
      · by_cases hi : i < k
        · rw [List.getElem?_append_left (by omega)] at he; exact h2 i e he
        · have hi2 : i = k := by
            have := (List.getElem?_eq_some_iff.1 he).1
            simp at this
            omega
          subst hi2
          rw [List.getElem?_append_right (by omega), h1, Nat.sub_self] at he
          simp at he
          subst he
          exact hc
      · by_cases hi : i < k
        · rw [List.getElem?_append_left (by omega)] at he; exact h3 i e y he hy
        · have hi2 : i = k := by
            have := (List.getElem?_eq_some_iff.1 he).1
            simp at this
            omega
          subst hi2
          rw [List.getElem?_append_right (by omega), h1, Nat.sub_self] at he
          simp at he
          subst he
          obtain rfl := Option.some.inj (hz.symm.trans hy)
          exact hr
  exact key len (Nat.le_refl _)

set_option maxHeartbeats 2000000 in
theorem cloneSS_any (a : Option Addr) (len cap : Nat) (zss : List (List Int)) (w : World) (h : BsRow w a len zss) (hl : len ≤ 1048576) :
    Calls Try.prog 86 #[.slice a len cap] w fun e w' => ∃ (a' : Option Addr) (c' : Nat) (es : List Sl), e = .returned (.slice a' len c') ∧ es.length = len ∧
      w'.ownsRow w.heap.size 45 1 (.slice a' len c') len (es.map Sl.v) ∧ (∀ (i : Nat) (e : Sl) (z : List Int), es[i]? = some e → zss[i]? = some z → BRow w e.a e.n z) ∧ Below w.heap.size w w' := by
  obtain ⟨i0, hi, hz0, hz1, hz2⟩ := info_parts infoSB
  have qT : ∀ (w : World) (a : Option Addr) (n c n' c' : Nat), (binOp .eql 22 (.slice a n c) (.slice none n' c')).run Try.prog w = .ok (.bool a.isNone) w := fun w a n c n' c' => Lib.run_eql_slice_nil w _ _ a n c n' c' Try.underlying22
  cases a with
  | none =>
    have h0 : len = 0 := by
      rcases Nat.eq_zero_or_pos len with h0 | hp
      · exact h0
      · obtain ⟨_, _, e, _⟩ := h.2.2 hp; cases e
    subst h0
    clear h
    go_enter Try.func86, Try.ntmps86
    go_wp2_with fail
    go_ret
    exact ⟨none, 0, [], rfl, rfl, World.ownsRow_nil _ _ _ _, fun i e z he => by simp at he, Below.refl _ _⟩
  | some x =>
    have hown0 : (w.alloc (.cells #[] 45)).ownsRow w.heap.size 45 1 (.slice (some ⟨w.heap.size, 0, none⟩) 0 0) 0 [] := World.ownsRow_lit w #[] 0 (Nat.le_refl _) (by unfold maxLen; omega) rfl
    have hb := below_alloc w (.cells #[] 45)
    obtain ⟨es, s1, s2, s3⟩ : ∃ es : List Sl, es.length = len ∧ (∀ j u, (es.map Sl.v)[j]? = some u → (w.alloc (.cells #[] 45)).cell? (x.add j) = some u) ∧ ∀ (i : Nat) (e : Sl) (z : List Int), es[i]? = some e → zss[i]? = some z → BRow w e.a e.n z := by
      rcases Nat.eq_zero_or_pos len with h0 | hp
      · subst h0
        exact ⟨[], rfl, fun j u hu => by simp at hu, fun i e z he => by simp at he⟩
      · obtain ⟨b, off, e, _⟩ := h.2.2 hp
        cases e
        obtain ⟨es, s1, s2, s3⟩ := h.slices
        refine ⟨es, s1, fun j u hu => ?_, s3⟩
        rw [List.getElem?_map] at hu
        obtain ⟨e, he, rfl⟩ := Option.map_eq_some_iff.1 hu
        have hc := s2 j e he
        rw [add_none]
        exact (hb.cell (lt_of_cell hc)).trans hc
    have HS2 := hide s2
    have HS3 := hide s3
    have HB := hide hb
    clear h s2 s3 hb
    go_enter Try.func86, Try.ntmps86
    go_wp2_with (at_builtin; refine wpList_append_own _ rfl _ _ 22 rfl w.heap.size 45 i0 (.slice none 0 0) 1 24 Try.underlying22 hi hz0 hz1 hz2 rfl (by decide) _ _ _ rfl hown0 x len cap (es.map Sl.v) rfl ?c0 ?c1 ?c2 ?c3 ?c4 ?c5 ?_)
    case c0 => simp [s1]
    case c1 => exact unhide HS2
    case c2 => intro u hu; obtain ⟨z, _, rfl⟩ := List.mem_map.1 hu; rfl
    case c3 => unfold maxLen; omega
    case c4 => omega
    case c5 => simp
    intro v' w2 hown2 hgrow _
    obtain ⟨a2, cap2, hvv⟩ := own_shape hown2
    have hb2 : Below w.heap.size w w2 := (unhide HB).grown hgrow (unhide HB).size (fun g e => (hown0.lt g e).1)
    rw [hvv] at hown2
    rw [hvv]
    have HO := hide hown2
    have HB2 := hide hb2
    clear hown2 hb2 hgrow hvv hown0 HB
    go_wp2_with fail
    go_ret
    refine ⟨a2, cap2, es, ?_, s1, ?_, unhide HS3, unhide HB2⟩
    · simp
    · simpa using unhide HO

end Go.Proofs.Ytalkhlimkanlcaa

/- What is proved here: what the program's copyLists answers: the same list in memory of its own, down to the bytes. -/
namespace Go.Proofs.Ytalkhlimkanlcaa
open Go.RowKit
set_option linter.unusedVariables false
set_option maxRecDepth 100000

/-- A list whose first k slices are copied. -/
def PS (B : Nat) (wr : World) (d : Nat → Nat) (r c : Nat) (s : Sl) (zss : List (List Int)) (es : List Sl) (k : Nat) : Prop :=
  ∃ fs : List Sl, fs.length = zss.length ∧ wr.ownsRow B 45 1 (.slice s.a s.n s.c) s.n (fs.map Sl.v) ∧ (∀ g, (Value.slice s.a s.n s.c).ownBlock = some g → d g = r) ∧
    (∀ (i : Nat) (e : Sl) (z : List Int), i < k → fs[i]? = some e → zss[i]? = some z → CB wr B d (c + 3 * i) e z) ∧ ∀ i, k ≤ i → fs[i]? = es[i]?

theorem PS.cell {B : Nat} {wr : World} {d : Nat → Nat} {r c : Nat} {s : Sl} {zss : List (List Int)} {es : List Sl} {k : Nat} (h : PS B wr d r c s zss es k) (hn : s.n = zss.length) (hk : k < zss.length) {e : Sl} (he : es[k]? = some e) :
    ∃ g, s.a = some ⟨g, 0, none⟩ ∧ wr.cell? ⟨g, k, none⟩ = some (.slice e.a e.n e.c) ∧ wr.frozen? ⟨g, k, none⟩ = false ∧ B ≤ g ∧ g < wr.heap.size := by
  obtain ⟨fs, h1, h2, h3, h4, h5⟩ := h
  obtain ⟨g, cap, hv⟩ := own_some h2 (by omega)
  have hv2 := hv
  simp only [Value.slice.injEq] at hv2
  rw [hv] at h2
  refine ⟨g, hv2.1, ?_, h2.frozenAt k, own_lt h2 g rfl⟩
  rw [h2.cellAt k (by omega), List.getElem?_map, h5 k (Nat.le_refl _), he]
  rfl

theorem PS.step {B : Nat} {wr w2 : World} {d : Nat → Nat} {r c : Nat} {s : Sl} {zss : List (List Int)} {es : List Sl} {k g : Nat} (h : PS B wr d r c s zss es k) (hn : s.n = zss.length) (hk : k < zss.length) {z : List Int} (hz : zss[k]? = some z) (hr : ∀ i, r ≠ c + 3 * i)
    (hB : B ≤ wr.heap.size) (hg : s.a = some ⟨g, 0, none⟩) {a : Option Addr} {n c' : Nat} (hl : n = z.length) (hrg : ∀ x ∈ z, 0 ≤ x ∧ x ≤ 255) (ho : w2.ownsRow wr.heap.size 5 1 (.slice a n c') n (z.map (Value.int .u8))) (hb : Below wr.heap.size wr w2) :
    PS B (w2.setCell ⟨g, k, none⟩ (.slice a n c')) (fun q => if wr.heap.size ≤ q then c + 3 * k else d q) r c s zss es (k + 1) := by
  obtain ⟨fs, h1, h2, h3, h4, h5⟩ := h
  obtain ⟨sa, sn, sc⟩ := s
  simp only at hn hg h2 h3
  subst hg
  have hgl := own_lt h2 g rfl
  have hdg : ∀ q, q < wr.heap.size → (if wr.heap.size ≤ q then c + 3 * k else d q) = d q := fun q hq => if_neg (by omega)
  have h2' := own_below h2 hb (Nat.le_refl _)
  have st := h2'.stored k (.slice a n c')
  have hrow : (if wr.heap.size ≤ g then c + 3 * k else d g) = r := by rw [hdg g hgl.2]; exact h3 g rfl
  have on : OnlyD B (fun q => if wr.heap.size ≤ q then c + 3 * k else d q) (fun q => q = r) w2 (w2.setCell ⟨g, k, none⟩ (.slice a n c')) := OnlyD.grown st.2 (Nat.le_trans hB hb.size) (fun q e => by have := Option.some.inj e; subst this; exact ⟨hgl.1, hrow⟩)
  refine ⟨fs.set k ⟨a, n, c'⟩, by rw [List.length_set]; exact h1, by rw [List.map_set]; exact st.1, fun q hq => by have := Option.some.inj hq; subst this; exact hrow, fun i e y hi he hy => ?_, fun i hi => ?_⟩
  · rw [List.getElem?_set] at he
    by_cases hik : k = i
    · subst hik
      rw [if_pos rfl, if_pos (by omega)] at he
      obtain rfl := Option.some.inj he
      obtain rfl := Option.some.inj (hz.symm.trans hy)
      exact (CB.new (d := d) (j := c + 3 * k) hl hrg ho hB).only on (fun q => hr k q.symm)
    · rw [if_neg hik] at he
      exact (((h4 i e y (by omega) he hy).recol (d' := fun q => if wr.heap.size ≤ q then c + 3 * k else d q) hdg).below hb (Nat.le_refl _)).only on (fun q => hr i q.symm)
  · rw [List.getElem?_set, if_neg (by omega)]
    exact h5 i (by omega)

set_option maxHeartbeats 4000000 in
theorem copyLists_any (r c : Nat) (hr : ∀ i, r ≠ c + 3 * i) (a : Option Addr) (len cap : Nat) (zss : List (List Int)) (w : World) (h : BsRow w a len zss) (hl : len ≤ 1048576) (hz : ∀ z ∈ zss, z.length ≤ 1048576) :
    Calls Try.prog 48 #[.slice a len cap] w fun e w' => ∃ (s : Sl) (d : Nat → Nat), e = .returned (.slice s.a s.n s.c) ∧ CS w' w.heap.size d r c s zss ∧ Below w.heap.size w w' := by
  have hil := h.1
  have HBY := hide h.bytes
  have D1 := hide (cloneSS_any a len cap zss w h hl)
  have HL := hide hil
  have HZ := hide hz
  have HR := hide hr
  clear h hil hz hr
  go_enter Try.func48, Try.ntmps48
  go_wp2_with fail
  refine (unhide D1).mono ?_
  rintro e w2 ⟨a2, c2, es, rfl, hes, o2, hbr, b2⟩
  have P0 : PS w.heap.size w2 (fun _ => r) r c ⟨a2, len, c2⟩ zss es 0 := ⟨es, by rw [unhide HL]; exact hes, o2, fun _ _ => rfl, fun i e z hi => absurd hi (Nat.not_lt_zero _), fun i _ => rfl⟩
  have HP := hide P0
  have HBR := hide hbr
  have HB2 := hide b2
  clear D1 o2 b2 hbr P0
  go_wp2_with fail
  go_loopw [10] (fun i wr => ∃ (k : Nat) (d : Nat → Nat), k ≤ len ∧ i = .int .i64 k ∧ PS w.heap.size wr d r c ⟨a2, len, c2⟩ zss es k ∧ Below w.heap.size w wr) (fun i _ => len - (intOf i).toNat)
  case atStart => exact ⟨0, fun _ => r, Nat.zero_le _, rfl, unhide HP, unhide HB2⟩
  case round =>
    obtain ⟨k, d, hk, rfl, hps, hbr⟩ := hrel
    clear HP HB2
    by_cases hlt : k < len
    · have hkz : k < zss.length := by rw [unhide HL]; exact hlt
      obtain ⟨z, hit⟩ : ∃ z, zss[k]? = some z := ⟨_, List.getElem?_eq_getElem hkz⟩
      obtain ⟨e, hee⟩ : ∃ e, es[k]? = some e := ⟨_, List.getElem?_eq_getElem (by omega)⟩
      obtain ⟨g, hga, hcell, hfz, hgB, hgl⟩ := hps.cell (unhide HL).symm hkz hee
      simp only at hga
      subst hga
      have hrow := ((unhide HBR) k e z hee hit).below hbr (Nat.le_refl _)
      have hzl := (unhide HZ) z (List.mem_of_getElem? hit)
      have hel : z.length = e.n := hrow.1
      have DC := hide (clone_any e.a e.n e.c z wr hrow (by omega))
      have HST : Hid (∀ w2 a c', w2.ownsRow wr.heap.size 5 1 (.slice a e.n c') e.n (z.map (Value.int .u8)) → Below wr.heap.size wr w2 → (∃ u, w2.cell? ⟨g, k, none⟩ = some u) ∧ w2.frozen? ⟨g, k, none⟩ = false ∧ PS w.heap.size (w2.setCell ⟨g, k, none⟩ (.slice a e.n c')) (fun q => if wr.heap.size ≤ q then c + 3 * k else d q) r c ⟨some ⟨g, 0, none⟩, len, c2⟩ zss es (k + 1) ∧ Below w.heap.size w (w2.setCell ⟨g, k, none⟩ (.slice a e.n c'))) := fun w2 a c' ho hb => by
        refine ⟨⟨_, (hb.cell (p := ⟨g, k, none⟩) hgl).trans hcell⟩, ?_, hps.step (unhide HL).symm hkz hit (unhide HR) hbr.size rfl hel.symm ((unhide HBY) z (List.mem_of_getElem? hit)) ho hb, (hbr.trans (hb.mono hbr.size)).setCell (p := ⟨g, k, none⟩) hgB _⟩
        rw [World.frozen?_of_block (hb.block g hgl)]
        exact hfz
      have k1 : (0 : Int) ≤ (k : Int) := by omega
      have k2 : (k : Int) < (len : Int) := by omega
      have HB := hide hbr
      clear hps hbr hit hee hrow hel hzl hfz
      go_wp2_with fail
      refine (unhide DC).mono ?_
      rintro ev w3 ⟨a3, c3, rfl, o3, b3⟩
      obtain ⟨⟨u, hu⟩, hf, hP, hB3⟩ := (unhide HST) w3 a3 c3 o3 b3
      have HP := hide hP
      have HB3 := hide hB3
      clear HST DC o3 b3 hP hB3 hcell
      go_wp2_with fail
      go_roundw
      case rel => exact ⟨k + 1, _, by omega, by go_num, unhide HP, unhide HB3⟩
      case measure => simp [intOf]; omega
    · obtain rfl : k = len := by omega
      have hcs : CS wr w.heap.size d r c ⟨a2, k, c2⟩ zss := by
        obtain ⟨fs, h1, h2, h3, h4, h5⟩ := hps
        exact ⟨(unhide HL).symm, fs, h1, h2, h3, fun i e z he hz => h4 i e z (by have := (List.getElem?_eq_some_iff.1 hz).1; have := unhide HL; omega) he hz⟩
      have HC := hide hcs
      have HB := hide hbr
      clear hps hbr hcs
      go_wp2_with fail
      go_ret
      exact ⟨⟨a2, k, c2⟩, d, rfl, unhide HC, unhide HB⟩

end Go.Proofs.Ytalkhlimkanlcaa

/- What is proved here: plain facts on headers in memory of their own: what a store below them leaves, and a list that grows by one slice. -/
namespace Go.Proofs.Ytalkhlimkanlcaa
open Go.RowKit
set_option linter.unusedVariables false
set_option maxRecDepth 100000

theorem CB.set {B j : Nat} {d : Nat → Nat} {w : World} {s : Sl} {z : List Int} {p : Addr} {v : Value} (h : CB w B d j s z) (hp : p.block < B) : CB (w.setCell p v) B d j s z := ⟨h.len, h.rng, ownsRow_setCell_below h.own hp v, h.col⟩

theorem CS.set {B r c : Nat} {d : Nat → Nat} {w : World} {s : Sl} {zss : List (List Int)} {p : Addr} {v : Value} (h : CS w B d r c s zss) (hp : p.block < B) : CS (w.setCell p v) B d r c s zss := by
  obtain ⟨h1, es, h2, h3, h4, h5⟩ := h
  exact ⟨h1, es, h2, ownsRow_setCell_below h3 hp v, h4, fun i e z he hz => (h5 i e z he hz).set hp⟩

theorem CH.set {B : Nat} {d : Nat → Nat} {w : World} {x : HS} {h : Hd} {p : Addr} {v : Value} (o : CH w B d x h) (hp : p.block < B) : CH (w.setCell p v) B d x h :=
  ⟨o.p.set hp, o.t.set hp, o.s.set hp, o.r.set hp, o.g.set hp, o.e.set hp, o.k.set hp⟩

theorem CB.recol2 {B j : Nat} {d d' : Nat → Nat} {w : World} {s : Sl} {z : List Int} (h : CB w B d j s z) (hd : ∀ g, B ≤ g → d' g = d g) : CB w B d' j s z := ⟨h.len, h.rng, h.own, fun g hg => by rw [hd g (own_lt h.own g hg).1]; exact h.col g hg⟩

theorem CS.recol2 {B r c : Nat} {d d' : Nat → Nat} {w : World} {s : Sl} {zss : List (List Int)} (h : CS w B d r c s zss) (hd : ∀ g, B ≤ g → d' g = d g) : CS w B d' r c s zss := by
  obtain ⟨h1, es, h2, h3, h4, h5⟩ := h
  exact ⟨h1, es, h2, h3, fun g hg => by rw [hd g (own_lt h3 g hg).1]; exact h4 g hg, fun i e z he hz => (h5 i e z he hz).recol2 hd⟩

theorem CH.recol2 {B : Nat} {d d' : Nat → Nat} {w : World} {x : HS} {h : Hd} (o : CH w B d x h) (hd : ∀ g, B ≤ g → g < w.heap.size → d' g = d g) : CH w B d' x h := by
  have key : ∀ {j : Nat} {s : Sl} {z : List Int}, CB w B d j s z → CB w B d' j s z := fun h => ⟨h.len, h.rng, h.own, fun g hg => by rw [hd g (own_lt h.own g hg).1 (own_lt h.own g hg).2]; exact h.col g hg⟩
  have keyS : ∀ {r c : Nat} {s : Sl} {zss : List (List Int)}, CS w B d r c s zss → CS w B d' r c s zss := fun h => by
    obtain ⟨h1, es, h2, h3, h4, h5⟩ := h
    exact ⟨h1, es, h2, h3, fun g hg => by rw [hd g (own_lt h3 g hg).1 (own_lt h3 g hg).2]; exact h4 g hg, fun i e z he hz => key (h5 i e z he hz)⟩
  exact ⟨key o.p, key o.t, keyS o.s, key o.r, key o.g, key o.e, keyS o.k⟩

theorem own_set9 {B : Nat} {w : World} {e : TypeId} {size n : Nat} {v : Value} {xs : List Value} {p : Addr} {u : Value} (h : w.ownsRow B e size v n xs) (hne : ∀ g, v.ownBlock = some g → g ≠ p.block) : (w.setCell p u).ownsRow B e size v n xs := by
  refine ⟨h.1, ?_⟩
  rcases h.2 with h' | ⟨g, cap, cur, h1, h2, h3, h4⟩
  · exact .inl h'
  · exact .inr ⟨g, cap, cur, h1, h2, (heap_setCell_other w p g u (hne g (by rw [h1]; rfl))).trans h3, h4⟩

theorem CB.set9 {B j : Nat} {d : Nat → Nat} {w : World} {s : Sl} {z : List Int} {p : Addr} {v : Value} (h : CB w B d j s z) (hp : d p.block ≠ j) : CB (w.setCell p v) B d j s z := ⟨h.len, h.rng, own_set9 h.own (fun g hg e => hp (by rw [← e]; exact h.col g hg)), h.col⟩

theorem CS.set9 {B r c : Nat} {d : Nat → Nat} {w : World} {s : Sl} {zss : List (List Int)} {p : Addr} {v : Value} (h : CS w B d r c s zss) (hr : d p.block ≠ r) (hc : ∀ i, d p.block ≠ c + 3 * i) : CS (w.setCell p v) B d r c s zss := by
  obtain ⟨h1, es, h2, h3, h4, h5⟩ := h
  exact ⟨h1, es, h2, own_set9 h3 (fun g hg e => hr (by rw [← e]; exact h4 g hg)), h4, fun i e z he hz => (h5 i e z he hz).set9 (hc i)⟩

theorem CH.set9 {B : Nat} {d : Nat → Nat} {w : World} {x : HS} {h : Hd} {p : Addr} {v : Value} (o : CH w B d x h) (hp : d p.block = 9) : CH (w.setCell p v) B d x h :=
  ⟨o.p.set9 (by omega), o.t.set9 (by omega), o.s.set9 (by omega) (fun i => by omega), o.r.set9 (by omega), o.g.set9 (by omega), o.e.set9 (by omega), o.k.set9 (by omega) (fun i => by omega)⟩

theorem CS.mkSnoc {B r c : Nat} {d : Nat → Nat} {w w2 : World} {s : Sl} {zss : List (List Int)} {es : List Sl} {e : Sl} {z : List Int} {a' : Option Addr} {c' : Nat} (hr : ∀ i, r ≠ c + 3 * i) (hB : B ≤ w.heap.size) (h1 : s.n = zss.length) (h2 : es.length = zss.length)
    (h3 : w.ownsRow B 45 1 (.slice s.a s.n s.c) s.n (es.map Sl.v)) (h4 : ∀ g, (Value.slice s.a s.n s.c).ownBlock = some g → d g = r) (h5 : ∀ (i : Nat) (e : Sl) (z : List Int), es[i]? = some e → zss[i]? = some z → CB w B d (c + 3 * i) e z)
    (he : CB w B d (c + 3 * zss.length) e z) (o2 : w2.ownsRow B 45 1 (.slice a' (s.n + 1) c') (s.n + 1) (es.map Sl.v ++ [e.v])) (hg : w.grownBy w2 (Value.slice s.a s.n s.c).ownBlock)
    (hblk : (Value.slice a' (s.n + 1) c').ownBlock = (Value.slice s.a s.n s.c).ownBlock ∨ (Value.slice a' (s.n + 1) c').ownBlock = some w.heap.size) :
    CS w2 B (fun g => if w.heap.size ≤ g then r else d g) r c ⟨a', s.n + 1, c'⟩ (zss ++ [z]) ∧ OnlyD B (fun g => if w.heap.size ≤ g then r else d g) (fun q => q = r) w w2 := by
  have hdg : ∀ q, q < w.heap.size → (if w.heap.size ≤ q then r else d q) = d q := fun q hq => if_neg (by omega)
  have on : OnlyD B (fun q => if w.heap.size ≤ q then r else d q) (fun q => q = r) w w2 := OnlyD.grown hg hB (fun q e => ⟨(own_lt h3 q e).1, by rw [hdg q (own_lt h3 q e).2]; exact h4 q e⟩)
  refine ⟨⟨by simp [h1], es ++ [e], by simp [h2], by rw [List.map_append]; exact o2, fun g hgq => ?_, fun i e' z' he' hz' => ?_⟩, on⟩
  · rcases hblk with hb | hb
    · have hgq' : (Value.slice s.a s.n s.c).ownBlock = some g := by rw [← hb]; exact hgq
      show (if w.heap.size ≤ g then r else d g) = r
      rw [hdg g (own_lt h3 g hgq').2]; exact h4 g hgq'
    · have hgq' : some w.heap.size = some g := by rw [← hb]; exact hgq
      obtain rfl := Option.some.inj hgq'
      exact if_pos (Nat.le_refl _)
  · by_cases hi : i < zss.length
    · rw [List.getElem?_append_left (by omega)] at he' hz'
      exact ((h5 i e' z' he' hz').recol hdg).only on (fun q => hr i q.symm)
    · have hi2 : i = zss.length := by
        have := (List.getElem?_eq_some_iff.1 hz').1
        simp at this
        omega
      subst hi2
      rw [List.getElem?_append_right (by omega), h2, Nat.sub_self] at he'
      rw [List.getElem?_append_right (Nat.le_refl _), Nat.sub_self] at hz'
      simp at he' hz'
      subst he' hz'
      exact (he.recol hdg).only on (fun q => hr _ q.symm)

end Go.Proofs.Ytalkhlimkanlcaa

/- What is proved here: the model's copy of bytes gives the same bytes in new memory. -/
namespace Go.Proofs.Ytalkhlimkanlcaa
open Go.RowKit
set_option linter.unusedVariables false
set_option maxRecDepth 100000

set_option maxHeartbeats 1000000 in
theorem copy_any (a : Option Addr) (n cap : Nat) (zs : List Int) (w : World) (h : BRow w a n zs) (hcap : a = none → cap = 0) (hn : n ≤ 1048576) :
    Calls Try.prog 85 #[.slice a n cap] w fun e w' => ∃ (a' : Option Addr) (cap' : Nat), e = .returned (.slice a' n cap') ∧ w'.ownsRow w.heap.size 5 1 (.slice a' n cap') n (zs.map (Value.int .u8)) ∧ Below w.heap.size w w' := by
  obtain ⟨i0, hi, hz0, hz1, hz2⟩ := info_parts info5
  have hown0 : (w.alloc (.cells #[] 5)).ownsRow w.heap.size 5 1 (.slice (some ⟨w.heap.size, 0, none⟩) 0 0) 0 [] := World.ownsRow_lit w #[] 0 (Nat.le_refl _) (by unfold maxLen; omega) rfl
  have hb := below_alloc w (.cells #[] 5)
  have hr := h.below hb (Nat.le_refl _)
  cases a with
  | none =>
    obtain rfl : n = 0 := h.2.2.1 rfl
    obtain rfl : zs = [] := List.length_eq_zero_iff.1 h.1
    obtain rfl : cap = 0 := hcap rfl
    have HB := hide hb
    clear h hr hb
    go_enter Try.func85, Try.ntmps85
    go_wp2_with (at_builtin; refine wpList_append_own_none rfl _ _ 45 rfl w.heap.size 5 i0 1 Try.underlying45 hi _ _ _ rfl hown0 rfl ?_)
    go_ret
    exact ⟨_, _, rfl, hown0, unhide HB⟩
  | some x =>
    have HR := hide hr
    have hzl := h.1
    clear h hr
    go_enter Try.func85, Try.ntmps85
    go_wp2_with (at_builtin; refine wpList_append_own _ rfl _ _ 45 rfl w.heap.size 5 i0 (.int .u8 0) 1 1 Try.underlying45 hi hz0 hz1 hz2 rfl (by decide) _ _ _ rfl hown0 x n cap (zs.map (Value.int .u8)) rfl ?c0 ?c1 ?c2 ?c3 ?c4 ?c5 ?_)
    case c0 => simp [hzl]
    case c1 =>
      intro j u hj
      have hjl : j < zs.length := by have := (List.getElem?_eq_some_iff.1 hj).1; simpa using this
      rw [(unhide HR).2.2.2 x rfl j (by omega)]
      rw [List.getElem?_map, List.getElem?_eq_getElem hjl] at hj
      rw [getD_at _ _ hjl]
      exact hj
    case c2 => intro u hu; obtain ⟨z, _, rfl⟩ := List.mem_map.1 hu; rfl
    case c3 => unfold maxLen; omega
    case c4 => omega
    case c5 => simp
    intro v' w2 hown2 hgrow _
    obtain ⟨a2, cap2, hvv⟩ := own_shape hown2
    have hb2 : Below w.heap.size w w2 := hb.grown hgrow (by simp) (fun g e => by simp [Value.ownBlock] at e; omega)
    rw [hvv] at hown2
    rw [hvv]
    have HO := hide hown2
    have HB := hide hb2
    clear hown2 hb2 hgrow hvv hown0 hb
    go_wp2_with fail
    go_ret
    refine ⟨a2, cap2, ?_, ?_, unhide HB⟩
    · simp
    · simpa using unhide HO

end Go.Proofs.Ytalkhlimkanlcaa

/- What is proved here: what the model's l5Lists answers: the same list in memory of its own, down to the bytes. -/
namespace Go.Proofs.Ytalkhlimkanlcaa
open Go.RowKit
set_option linter.unusedVariables false
set_option maxRecDepth 100000

theorem one_at (w : World) (x : Value) (t : TypeId) : ∀ (j : Nat) (u : Value), [x][j]? = some u → (w.alloc (.cells #[x] t)).cell? ((⟨w.heap.size, 0, none⟩ : Addr).add j) = some u := by
  intro j u hj
  rw [add_none, Nat.zero_add, World.cell?_alloc_new]
  match j, hj with
  | 0, hj => simpa using hj

set_option maxHeartbeats 4000000 in
theorem l5Lists_any (r c : Nat) (hr : ∀ i, r ≠ c + 3 * i) (a : Option Addr) (len cap : Nat) (zss : List (List Int)) (w : World) (h : BsRow w a len zss) (hn : BsNil w a len) (hl : len ≤ 1048576) (hz : ∀ z ∈ zss, z.length ≤ 1048576) :
    Calls Try.prog 47 #[.slice a len cap] w fun e w' => ∃ (s : Sl) (d : Nat → Nat), e = .returned (.slice s.a s.n s.c) ∧ CS w' w.heap.size d r c s zss ∧ Below w.heap.size w w' := by
  obtain ⟨i0, hi, hz0, hz1, hz2⟩ := info_parts infoSB
  have hil := h.1
  have o0 : (w.alloc (.cells #[] 45)).ownsRow w.heap.size 45 1 (.slice (some ⟨w.heap.size, 0, none⟩) 0 0) 0 (([] : List Sl).map Sl.v) := World.ownsRow_lit w #[] 0 (Nat.le_refl _) (by unfold maxLen; omega) rfl
  have HC0 : Hid (CS (w.alloc (.cells #[] 45)) w.heap.size (fun _ => r) r c ⟨some ⟨w.heap.size, 0, none⟩, 0, 0⟩ []) := ⟨rfl, [], rfl, o0, (fun _ _ => rfl), fun i e z he => by simp at he⟩
  have HROW := hide (fun (W : World) (hb : Below w.heap.size w W) => And.intro (h.below hb (Nat.le_refl _)) (hn.below hb (Nat.le_refl _)))
  have HBY := hide h.bytes
  have HZ := hide hz
  have HL := hide hil
  have HR := hide hr
  clear h hn hil o0 hz hr
  go_enter Try.func47, Try.ntmps47
  go_wp2_with fail
  go_loopw [3, 4] (fun s i wr => ∃ (k : Nat) (t : Sl) (d : Nat → Nat), k ≤ len ∧ i = .int .i64 k ∧ s = .slice t.a t.n t.c ∧ CS wr w.heap.size d r c t (zss.take k) ∧ Below w.heap.size w wr) (fun _ i _ => len - (intOf i).toNat)
  case atStart => exact ⟨0, ⟨some ⟨w.heap.size, 0, none⟩, 0, 0⟩, fun _ => r, Nat.zero_le _, rfl, rfl, unhide HC0, below_alloc w _⟩
  case round =>
    obtain ⟨k, t, d, hk, rfl, rfl, hcs, hbr⟩ := hrel
    clear HC0
    by_cases hlt : k < len
    · obtain ⟨z, hit⟩ : ∃ z, zss[k]? = some z := ⟨_, List.getElem?_eq_getElem (by rw [unhide HL]; exact hlt)⟩
      obtain ⟨hrow, hnil⟩ := (unhide HROW) wr hbr
      obtain ⟨b, off, rfl, _, hat⟩ := hrow.at (by omega)
      obtain ⟨s1, n1, d1, c0, r1⟩ := hat k z hit
      obtain ⟨s1', n1', d1', c0', hnn⟩ := hnil b off rfl k hlt
      rw [c0] at c0'
      simp only [Option.some.injEq, Value.slice.injEq] at c0'
      obtain ⟨rfl, rfl, rfl⟩ := c0'
      have hz8 := (unhide HZ) z (List.mem_of_getElem? hit)
      have hzl : z.length = n1 := r1.1
      have hzr := (unhide HBY) z (List.mem_of_getElem? hit)
      have HP := hide (copy_any s1 n1 d1 z wr r1 hnn (by omega))
      have hts : zss.take (k + 1) = zss.take k ++ [z] := by obtain ⟨hk', e'⟩ := List.getElem?_eq_some_iff.1 hit; rw [List.take_succ_eq_append_getElem hk', e']
      have htl : (zss.take k).length = k := by rw [List.length_take]; have := unhide HL; omega
      have htn : t.n = k := by rw [hcs.1]; exact htl
      have k1 : (0 : Int) ≤ (k : Int) := by omega
      have k2 : (k : Int) < (len : Int) := by omega
      have HCS := hide hcs
      have HB := hide hbr
      have HTS := hide hts
      have HTL := hide htl
      have HTN := hide htn
      have HZR := hide hzr
      clear hcs hbr hit hrow hnil hat r1 hnn hz8 hts htl htn hzr
      go_wp2_with fail
      refine (unhide HP).mono ?_
      rintro e w2 ⟨a2, c2, rfl, o2, b2⟩
      have ba := below_alloc w2 (.cells #[.slice a2 n1 c2] 45)
      have hs2 : wr.heap.size ≤ w2.heap.size := b2.size
      have hwr : w.heap.size ≤ wr.heap.size := (unhide HB).size
      obtain ⟨d', hd'⟩ : ∃ d' : Nat → Nat, d' = fun g => if wr.heap.size ≤ g then c + 3 * k else d g := ⟨_, rfl⟩
      have cz : CB w2 w.heap.size d' (c + 3 * k) ⟨a2, n1, c2⟩ z := by rw [hd']; exact CB.new hzl.symm (unhide HZR) o2 hwr
      have cs2 := ((unhide HCS).recol (d' := d') (fun g hg => by rw [hd']; exact if_neg (by omega))).below b2 (Nat.le_refl _)
      have cz := cz.below ba (Nat.le_refl _)
      obtain ⟨h1, es, h2, h3, h4, h5⟩ := cs2.below ba (Nat.le_refl _)
      have H1 := hide h1
      have H2 := hide h2
      have H4 := hide h4
      have H5 := hide h5
      have HCZ := hide cz
      have HCS2 := hide cs2
      clear h1 h2 h4 h5 cz cs2
      have B3 := (unhide HB).trans ((b2.trans (ba.mono b2.size)).mono hwr)
      have hsz3 : w.heap.size ≤ (w2.alloc (.cells #[.slice a2 n1 c2] 45)).heap.size := B3.size
      have hnk : t.n ≤ 1048576 := by have := unhide HTN; omega
      go_wp2_with (at_builtin; refine wpList_append_own_at _ rfl _ _ 22 rfl w.heap.size 45 i0 (.slice none 0 0) 1 24 Try.underlying22 hi hz0 hz1 hz2 rfl (by decide) _ _ _ rfl h3 ⟨w2.heap.size, 0, none⟩ 1 1 [.slice a2 n1 c2] rfl rfl ?c1 ?c2 ?c3 ?c4 ?c5 ?_)
      case c1 => exact one_at _ _ _
      case c2 => intro u hu; simp at hu; subst hu; rfl
      case c3 => unfold maxLen; omega
      case c4 => omega
      case c5 => exact hsz3
      intro v' w6 hown2 hgrow _ hblk
      obtain ⟨a6, c6, hv6⟩ := own_shape hown2
      subst hv6
      have SN := CS.mkSnoc (unhide HR) hsz3 (unhide H1) (unhide H2) h3 (unhide H4) (unhide H5) (by rw [unhide HTL]; exact unhide HCZ) hown2 hgrow (by rw [show (w2.alloc (.cells #[.slice a2 n1 c2] 45)).heap.size = w2.heap.size + 1 by simp]; exact hblk)
      rw [← unhide HTS] at SN
      have B6 : Below w.heap.size w w6 := B3.grown hgrow hsz3 (fun g e => (h3.lt g e).1)
      have HS6 := hide SN.1
      have HB6 := hide B6
      clear SN B6 hown2 hgrow hblk H1 H2 h3 H4 H5 HCZ HCS2 B3 ba o2 b2 HP HCS HB hd'
      go_wp2_with fail
      go_roundw
      case rel => exact ⟨k + 1, ⟨a6, t.n + 1, c6⟩, _, by omega, by go_num, rfl, unhide HS6, unhide HB6⟩
      case measure => simp [intOf]; omega
    · obtain rfl : k = len := by omega
      have et : zss.take k = zss := List.take_of_length_le (by rw [unhide HL]; exact Nat.le_refl _)
      rw [et] at hcs
      have HC := hide hcs
      have HB := hide hbr
      clear et hcs hbr
      go_wp2_with fail
      go_ret
      exact ⟨t, d, rfl, unhide HC, unhide HB⟩

end Go.Proofs.Ytalkhlimkanlcaa

/- What is proved here: what NewSnap answers, in the program and in the model: the code, and the signers in memory of its own. -/
namespace Go.Proofs.Ytalkhlimkanlcaa
open Go.RowKit
set_option linter.unusedVariables false
set_option maxRecDepth 100000

/-- The signers of the answer. -/
def nsAns (zss : List (List Int)) : List (List Int) := if sgSome zss = 0 then zss else []
/-- The five cells of an answer that has signers alone. -/
def nsvals (c : Int) (s : Sl) : Array Value := #[.int .i64 c, .int .i64 0, .slice s.a s.n s.c, .slice none 0 0, .slice none 0 0]

set_option maxHeartbeats 4000000 in
theorem implNew_any (s : Sl) (zss : List (List Int)) (w : World) (o : RowOk bytesK w s zss) (hl : zss.length ≤ 1048576) (hz : ∀ z ∈ zss, z.length ≤ 1048576) :
    Calls Try.prog 17 #[.slice s.a s.n s.c] w fun r w' => ∃ (t : Sl) (d : Nat → Nat), r = .returned (.agg (nsvals (sgSome zss) t)) ∧ CS w' w.heap.size d 6 8 t (nsAns zss) ∧ Below w.heap.size w w' := by
  have kr := SBlk.new w #[.int .i64 0, .int .i64 0, .slice none 0 0, .slice none 0 0, .slice none 0 0] 38
  have bb := below_alloc w (.cells #[.int .i64 0, .int .i64 0, .slice none 0 0, .slice none 0 0, .slice none 0 0] 38)
  have zb : (w.alloc (.cells #[.int .i64 0, .int .i64 0, .slice none 0 0, .slice none 0 0, .slice none 0 0] 38)).heap.size = w.heap.size + 1 := by simp
  obtain ⟨W0, e0⟩ : ∃ W, w.alloc (.cells #[.int .i64 0, .int .i64 0, .slice none 0 0, .slice none 0 0, .slice none 0 0] 38) = W := ⟨_, rfl⟩
  rw [e0] at kr bb zb
  have o0 := RowOk.below o bb (Nat.le_refl _)
  have hn : s.n = zss.length := o.len
  have HF := hide (someSigners_any s zss W0 o0 hl)
  have HP := hide (copyLists_any 6 8 (by intro i; omega) s.a s.n s.c zss W0 (bs_of_row o0) (by omega) hz)
  have HKR := hide (fun (W : World) (hb : Below (w.heap.size + 1) W0 W) => kr.below hb (by omega))
  have HBB := hide bb
  have HAA : Hid (nsAns zss = if sgSome zss = 0 then zss else []) := rfl
  have r0 := kr.cell 0
  have r1 := kr.cell 1
  have r2 := kr.cell 2
  have r3 := kr.cell 3
  have r4 := kr.cell 4
  have f0 := kr.free 0
  have f1 := kr.free 1
  have f2 := kr.free 2
  have f3 := kr.free 3
  have f4 := kr.free 4
  simp only [List.getElem?_cons_zero, List.getElem?_cons_succ] at r0 r1 r2 r3 r4
  clear o o0 hl hz hn kr bb
  generalize nsAns zss = AA at HAA ⊢
  generalize sgSome zss = fl at HF HAA ⊢
  go_enter Try.func17, Try.ntmps17
  go_wp2_with (rw [e0])
  try rw [e0]
  clear e0
  refine (unhide HF).mono ?_
  rintro r w1 ⟨rfl, rfl⟩
  by_cases n0 : fl = 0
  case neg =>
    have h0 : (fl != 0) = true := by simp [n0]
    have HAV : Hid (AA = []) := by show _ = _; rw [unhide HAA, if_neg n0]
    clear n0 HAA
    go_wp2_with fail
    refine bodyPost_ret (v := .agg (nsvals fl ⟨none, 0, 0⟩)) (by simp [results, Try.results17, go_sem, r0, r1, r2, r3, r4, nsvals]) rfl ⟨⟨none, 0, 0⟩, fun _ => 0, rfl, by rw [unhide HAV]; exact CS.nil _ _ _ _ _, ?_⟩
    repeat (refine Below.setCell ?_ (by show w.heap.size ≤ w.heap.size; omega) _)
    exact unhide HBB
  subst n0
  have HAV : Hid (AA = zss) := by show _ = _; rw [unhide HAA, if_pos rfl]
  clear HAA
  have h0 : ((0 : Int) != 0) = false := by simp
  go_wp2_with fail
  refine (unhide HP).mono ?_
  rintro r w2 ⟨t, d, rfl, cs, b2⟩
  have HCS := hide cs
  have HB2 := hide b2
  have kr := (unhide HKR) w2 (b2.mono (by omega))
  have r0 := kr.cell 0
  have r1 := kr.cell 1
  have r2 := kr.cell 2
  have r3 := kr.cell 3
  have r4 := kr.cell 4
  have f0 := kr.free 0
  have f1 := kr.free 1
  have f2 := kr.free 2
  have f3 := kr.free 3
  have f4 := kr.free 4
  simp only [List.getElem?_cons_zero, List.getElem?_cons_succ] at r0 r1 r2 r3 r4
  clear cs b2 kr
  go_wp2_with fail
  refine bodyPost_ret (v := .agg (nsvals 0 t)) (by simp [results, Try.results17, go_sem, r0, r1, r2, r3, r4, nsvals]) rfl ⟨t, d, rfl, ?_, ?_⟩
  · rw [unhide HAV]
    refine CS.base (B := w.heap.size + 1) ?_ (by omega)
    repeat (refine CS.set ?_ (by show w.heap.size < w.heap.size + 1; omega))
    rw [← zb]
    exact unhide HCS
  · repeat (refine Below.setCell ?_ (by show w.heap.size ≤ w.heap.size; omega) _)
    exact (unhide HBB).trans ((unhide HB2).mono (by omega))

set_option maxHeartbeats 4000000 in
theorem specNew_any (s : Sl) (zss : List (List Int)) (w : World) (o : RowOk bytesK w s zss) (hl : zss.length ≤ 1048576) (hz : ∀ z ∈ zss, z.length ≤ 1048576) :
    Calls Try.prog 15 #[.slice s.a s.n s.c] w fun r w' => ∃ (t : Sl) (d : Nat → Nat), r = .returned (.agg (nsvals (sgSome zss) t)) ∧ CS w' w.heap.size d 6 8 t (nsAns zss) ∧ Below w.heap.size w w' := by
  have kr := SBlk.new w #[.int .i64 0, .int .i64 0, .slice none 0 0, .slice none 0 0, .slice none 0 0] 38
  have bb := below_alloc w (.cells #[.int .i64 0, .int .i64 0, .slice none 0 0, .slice none 0 0, .slice none 0 0] 38)
  have zb : (w.alloc (.cells #[.int .i64 0, .int .i64 0, .slice none 0 0, .slice none 0 0, .slice none 0 0] 38)).heap.size = w.heap.size + 1 := by simp
  obtain ⟨W0, e0⟩ : ∃ W, w.alloc (.cells #[.int .i64 0, .int .i64 0, .slice none 0 0, .slice none 0 0, .slice none 0 0] 38) = W := ⟨_, rfl⟩
  rw [e0] at kr bb zb
  have o0 := RowOk.below o bb (Nat.le_refl _)
  have hn : s.n = zss.length := o.len
  have HF := hide (l7List_any s zss W0 o0 hl)
  have HP := hide (fun (n : Nat) => l5Lists_any 6 8 (by intro i; omega) s.a s.n s.c zss (W0.drewN n) (bs_of_row (RowOk.below o0 (below_drewN (Below.refl W0.heap.size W0) n) (Nat.le_refl _))) (bsnil_of_row (RowOk.below o0 (below_drewN (Below.refl W0.heap.size W0) n) (Nat.le_refl _))) (by omega) hz)
  have HKR := hide (fun (W : World) (hb : Below (w.heap.size + 1) W0 W) => kr.below hb (by omega))
  have HBB := hide bb
  have HAA : Hid (nsAns zss = if sgSome zss = 0 then zss else []) := rfl
  have r0 := kr.cell 0
  have r1 := kr.cell 1
  have r2 := kr.cell 2
  have r3 := kr.cell 3
  have r4 := kr.cell 4
  have f0 := kr.free 0
  have f1 := kr.free 1
  have f2 := kr.free 2
  have f3 := kr.free 3
  have f4 := kr.free 4
  simp only [List.getElem?_cons_zero, List.getElem?_cons_succ] at r0 r1 r2 r3 r4
  clear o o0 hl hz hn kr bb
  generalize nsAns zss = AA at HAA ⊢
  generalize sgSome zss = fl at HF HAA ⊢
  go_enter Try.func15, Try.ntmps15
  go_wp2_with (rw [e0])
  try rw [e0]
  clear e0
  refine (unhide HF).mono ?_
  rintro r w1 ⟨rfl, k1, rfl⟩
  by_cases n0 : fl = 0
  case neg =>
    have h0 : (fl != 0) = true := by simp [n0]
    have HAV : Hid (AA = []) := by show _ = _; rw [unhide HAA, if_neg n0]
    clear n0 HAA
    go_wp2_with fail
    refine bodyPost_ret (v := .agg (nsvals fl ⟨none, 0, 0⟩)) (by simp [results, Try.results15, go_sem, r0, r1, r2, r3, r4, nsvals]) rfl ⟨⟨none, 0, 0⟩, fun _ => 0, rfl, by rw [unhide HAV]; exact CS.nil _ _ _ _ _, ?_⟩
    repeat (refine Below.setCell ?_ (by show w.heap.size ≤ w.heap.size; omega) _)
    exact below_drewN (unhide HBB) k1
  subst n0
  have HAV : Hid (AA = zss) := by show _ = _; rw [unhide HAA, if_pos rfl]
  clear HAA
  have h0 : ((0 : Int) != 0) = false := by simp
  go_wp2_with fail
  refine ((unhide HP) _).mono ?_
  rintro r w2 ⟨t, d, rfl, cs, b2⟩
  have HCS := hide cs
  have HB2 := hide b2
  have kr := (unhide HKR) w2 ((below_drewN (Below.refl _ _) k1).trans (b2.mono (by simp [zb])))
  have r0 := kr.cell 0
  have r1 := kr.cell 1
  have r2 := kr.cell 2
  have r3 := kr.cell 3
  have r4 := kr.cell 4
  have f0 := kr.free 0
  have f1 := kr.free 1
  have f2 := kr.free 2
  have f3 := kr.free 3
  have f4 := kr.free 4
  simp only [List.getElem?_cons_zero, List.getElem?_cons_succ] at r0 r1 r2 r3 r4
  clear cs b2 kr
  go_wp2_with fail
  refine bodyPost_ret (v := .agg (nsvals 0 t)) (by simp [results, Try.results15, go_sem, r0, r1, r2, r3, r4, nsvals]) rfl ⟨t, d, rfl, ?_, ?_⟩
  · rw [unhide HAV]
    refine CS.base (B := w.heap.size + 1) ?_ (by omega)
    repeat (refine CS.set ?_ (by show w.heap.size < w.heap.size + 1; omega))
    have hcs := unhide HCS
    simpa [zb] using hcs
  · repeat (refine Below.setCell ?_ (by show w.heap.size ≤ w.heap.size; omega) _)
    exact (below_drewN (unhide HBB) k1).trans ((unhide HB2).mono (by simp [zb]))

end Go.Proofs.Ytalkhlimkanlcaa

/- What is proved here: the contracts of the laws' helper functions that mark a list or a header that a call made, and look for the marks later (markByteSS, markHeader, heldByteSS, heldHeader). -/
namespace Go.Proofs.Ytalkhlimkanlcaa
open Go.RowKit
set_option linter.unusedVariables false
set_option maxRecDepth 100000

theorem take_drop_at (m l : List (List Int)) (k : Nat) (h : m.length = l.length) : (m.take k ++ l.drop k)[k]? = l[k]? := by
  by_cases hk : k ≤ m.length
  · rw [List.getElem?_append_right (by rw [List.length_take]; omega), List.length_take, Nat.min_eq_left hk, Nat.sub_self, List.getElem?_drop, Nat.add_zero]
  · rw [List.getElem?_eq_none (by rw [List.length_append, List.length_take, List.length_drop]; omega), List.getElem?_eq_none (by omega)]

theorem take_drop_set (m l : List (List Int)) (k : Nat) (x : List Int) (h : m.length = l.length) (hx : m[k]? = some x) : (m.take k ++ l.drop k).set k x = m.take (k + 1) ++ l.drop (k + 1) := by
  obtain ⟨hk, e⟩ := List.getElem?_eq_some_iff.1 hx
  have hl : (m.take k).length = k := by rw [List.length_take]; omega
  rw [List.set_append, if_neg (by omega), hl, Nat.sub_self, List.drop_eq_getElem_cons (by omega), List.set_cons_zero, List.take_succ_eq_append_getElem hk, e, List.append_assoc]
  rfl

theorem markB_col (B j : Nat) (d : Nat → Nat) (s : Sl) (z : List Int) (k0 : Int) (w : World) (h : CB w B d j s z) (hB : B ≤ w.heap.size) (hn : z.length ≤ 1048576) (hk0 : 0 ≤ k0) (hk1 : k0 ≤ 1099511627776) :
    Calls Try.prog 49 #[.slice s.a s.n s.c, .int .i64 k0] w fun e w' => e = .returned (.int .i64 (k0 + (z.length : Nat))) ∧ CB w' B d j s (marks k0 z.length) ∧ OnlyD B d (fun c => c = j) w w' := by
  have hl := h.len
  refine (markByteS_own B s.n s.c s.a z k0 w h.own (by omega) hk0 hk1).mono ?_
  rintro e w' ⟨rfl, ho, hg⟩
  rw [hl] at ho
  refine ⟨by rw [hl], ⟨by rw [marks_length]; exact hl, marks_range _ _, by rw [hl]; exact ho, h.col⟩, OnlyD.grown hg hB (fun g e => ⟨(own_lt h.own g e).1, h.col g e⟩)⟩

set_option maxHeartbeats 4000000 in
theorem markSS_col (B r c : Nat) (d : Nat → Nat) (s : Sl) (zss : List (List Int)) (k0 : Int) (w : World) (h : CS w B d r c s zss) (hr : ∀ i, r ≠ c + 3 * i) (hB : B ≤ w.heap.size) (hl : zss.length ≤ 1048576) (hs : bsum zss ≤ 1048576) (hk0 : 0 ≤ k0) (hk1 : k0 ≤ 16777216) :
    Calls Try.prog 20 #[.slice s.a s.n s.c, .int .i64 k0] w fun e w' => e = .returned (.int .i64 (k0 + (bsum zss : Nat))) ∧ CS w' B d r c s (mkss k0 zss) ∧ OnlyD B d (fun q => ∃ i, q = c + 3 * i) w w' := by
  have hsn := h.1
  have HSN := hide (bsum_snoc zss)
  have HLE := hide (bsum_le zss)
  have HMA := hide (mkss_at zss k0)
  have HML := hide (mkss_length zss k0)
  have HM := hide h
  have HR := hide hr
  obtain ⟨len, hlen⟩ : ∃ len, len = zss.length := ⟨_, rfl⟩
  have HLEN := hide hlen
  rw [hsn]
  rw [← hlen] at hl hsn ⊢
  clear h hr hlen
  have HSL := hide hsn
  clear hsn
  generalize hsc : s.c = sc
  have HSC := hide hsc
  clear hsc
  generalize hsa : s.a = sa
  have HSA := hide hsa
  clear hsa
  go_enter Try.func20, Try.ntmps20
  go_wp2_with fail
  go_loopw [1, 5] (fun q i wr => ∃ k : Nat, k ≤ len ∧ i = .int .i64 k ∧ q = .int .i64 (k0 + (bsum (zss.take k) : Nat)) ∧ CS wr B d r c s ((mkss k0 zss).take k ++ zss.drop k) ∧ OnlyD B d (fun q => ∃ i, q = c + 3 * i) w wr) (fun _ i _ => len - (intOf i).toNat)
  case atStart => exact ⟨0, Nat.zero_le _, rfl, by simp [bsum], by simpa using unhide HM, OnlyD.refl _ _ _ _⟩
  case round =>
    obtain ⟨k, hk, rfl, rfl, hm, ho⟩ := hrel
    clear HM
    by_cases hlt : k < len
    · obtain ⟨z, hit⟩ : ∃ z, zss[k]? = some z := ⟨_, List.getElem?_eq_getElem (by rw [← unhide HLEN]; exact hlt)⟩
      have hat := (take_drop_at (mkss k0 zss) zss k (unhide HML)).trans hit
      obtain ⟨g, e, ha, hc, hcb, hst⟩ := hm.at hat ((unhide HR) k)
      have hma := (unhide HMA) k z hit
      have hsn := (unhide HSN) k z hit
      have hle1 := (unhide HLE) (k + 1)
      have hzl : z.length ≤ 1048576 := by omega
      obtain ⟨ks, hks⟩ : ∃ ks, ks = bsum (zss.take k) := ⟨_, rfl⟩
      rw [← hks] at hsn hma ⊢
      have hksl : ks ≤ 1048576 := by omega
      have hBr : B ≤ wr.heap.size := Nat.le_trans hB ho.1.size
      have HC := hide (markB_col B (c + 3 * k) d e z (k0 + ks) wr hcb hBr hzl (by omega) (by omega))
      have HST : Hid (∀ w', CB w' B d (c + 3 * k) e (marks (k0 + ks) z.length) → OnlyD B d (fun q => q = c + 3 * k) wr w' → CS w' B d r c s ((mkss k0 zss).take (k + 1) ++ zss.drop (k + 1)) ∧ OnlyD B d (fun q => ∃ i, q = c + 3 * i) w w') := fun w' hb hw => by
        have := hst w' _ hw hb
        rw [take_drop_set _ _ k _ (unhide HML) hma] at this
        exact ⟨this, ho.trans (hw.mono (fun q e => ⟨k, e⟩))⟩
      have HSN2 : Hid (bsum (zss.take (k + 1)) = ks + z.length) := hsn
      have k1 : (0 : Int) ≤ (k : Int) := by omega
      have k2 : (k : Int) < (len : Int) := by omega
      rw [unhide HSA] at ha
      subst ha
      generalize z.length = zl at HC HST HSN2 hzl
      clear hsn hle1 hit ho hks hm hat hcb hst hma
      go_wp2_with fail
      refine (unhide HC).mono ?_
      rintro e w2 ⟨rfl, b2, g2⟩
      obtain ⟨m2, o2⟩ := (unhide HST) w2 b2 g2
      have HM2 := hide m2
      have HO2 := hide o2
      clear m2 o2 g2 b2
      go_wp2_with fail
      go_roundw
      case rel => exact ⟨k + 1, by omega, by go_num, by rw [unhide HSN2]; congr 1; omega, unhide HM2, unhide HO2⟩
      case measure => simp [intOf]; omega
    · obtain rfl : k = len := by omega
      have et : zss.take k = zss := List.take_of_length_le (by rw [← unhide HLEN]; exact Nat.le_refl _)
      have em : (mkss k0 zss).take k ++ zss.drop k = mkss k0 zss := by rw [List.take_of_length_le (by rw [unhide HML, ← unhide HLEN]; exact Nat.le_refl _), List.drop_eq_nil_of_le (by rw [← unhide HLEN]; exact Nat.le_refl _), List.append_nil]
      rw [et]
      rw [em] at hm
      have HO := hide ho
      have HM := hide hm
      clear hm ho et em
      go_wp2_with fail
      go_ret
      exact ⟨rfl, unhide HM, unhide HO⟩

set_option maxHeartbeats 4000000 in
theorem heldSS_any (a : Option Addr) (len cap : Nat) (zss : List (List Int)) (k0 : Int) (w : World) (h : BsRow w a len (mkss k0 zss)) (hl : zss.length ≤ 1048576) (hs : bsum zss ≤ 1048576) (hk0 : 0 ≤ k0) (hk1 : k0 ≤ 16777216) :
    Calls Try.prog 90 #[.slice a len cap, .int .i64 k0] w fun e w' => e = .returned (.int .i64 (k0 + (bsum zss : Nat))) ∧ w' = w := by
  have hlen : zss.length = len := by rw [← mkss_length zss k0]; exact h.1
  have HSN := hide (bsum_snoc zss)
  have HLE := hide (bsum_le zss)
  have HMA := hide (mkss_at zss k0)
  have HLEN := hide hlen
  have HROW := hide h
  rw [hlen] at hl
  clear h hlen
  go_enter Try.func90, Try.ntmps90
  go_wp2_with fail
  go_loopw [1, 5] (fun q i wr => ∃ k : Nat, k ≤ len ∧ i = .int .i64 k ∧ q = .int .i64 (k0 + (bsum (zss.take k) : Nat)) ∧ wr = w) (fun _ i _ => len - (intOf i).toNat)
  case atStart => exact ⟨0, Nat.zero_le _, rfl, by simp [bsum], rfl⟩
  case round =>
    obtain ⟨k, hk, rfl, rfl, rfl⟩ := hrel
    by_cases hlt : k < len
    · obtain ⟨z, hit⟩ : ∃ z, zss[k]? = some z := ⟨_, List.getElem?_eq_getElem (by rw [unhide HLEN]; exact hlt)⟩
      obtain ⟨b, off, rfl, _, hat⟩ := (unhide HROW).at (by omega)
      obtain ⟨s1, n1, d1, c0, r1⟩ := hat k _ ((unhide HMA) k z hit)
      have hn1 : z.length = n1 := by have := r1.1; rw [marks_length] at this; exact this
      subst hn1
      have hsn := (unhide HSN) k z hit
      have hle1 := (unhide HLE) (k + 1)
      have hzl : z.length ≤ 1048576 := by omega
      obtain ⟨ks, hks⟩ : ∃ ks, ks = bsum (zss.take k) := ⟨_, rfl⟩
      rw [← hks] at hsn r1 ⊢
      have hksl : ks ≤ 1048576 := by omega
      have HC := hide (heldByteS_any z.length d1 s1 (k0 + ks) wr r1 (by omega) (by omega) (by omega))
      have HSN2 : Hid (bsum (zss.take (k + 1)) = ks + z.length) := hsn
      have k1 : (0 : Int) ≤ (k : Int) := by omega
      have k2 : (k : Int) < (len : Int) := by omega
      generalize z.length = zl at c0 HC HSN2 hzl
      have k3 : decide (k0 + (ks : Int) + (zl : Int) < 0) = false := decide_eq_false (by omega)
      clear hsn hle1 hit hks hat r1
      go_wp2_with fail
      refine (unhide HC).mono ?_
      rintro e w2 ⟨rfl, rfl⟩
      go_wp2_with fail
      go_roundw
      case rel => exact ⟨k + 1, by omega, by go_num, by rw [unhide HSN2]; congr 1; omega, by first | exact rfl | trivial⟩
      case measure => simp [intOf]; omega
    · obtain rfl : k = len := by omega
      have et : zss.take k = zss := List.take_of_length_le (by rw [unhide HLEN]; exact Nat.le_refl _)
      rw [et]
      clear et
      go_wp2_with fail
      go_ret
      exact ⟨rfl, rfl⟩

end Go.Proofs.Ytalkhlimkanlcaa
