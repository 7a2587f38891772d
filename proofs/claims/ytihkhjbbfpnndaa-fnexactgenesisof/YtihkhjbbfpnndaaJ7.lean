/- What is proved here: bytes appended to a row that the call owns, whatever slice they come from, told in one law for the walk; it holds for every program. -/
import Derived.Test.YtihkhjbbfpnndaaJ1
import Derived.Laws.AppendOwnNone
import Derived.WalkLawsBesides
import Derived.Test.YtihkhjbbfpnndaaChecked
import Derived.Lib.SliceRun
import Derived.WalkKit
import Derived.WalkSmall
import Derived.WalkSpells
import Derived.KernelRfl
import Derived.Test.YtihkhjbbfpnndaaJ4
import Derived.Test.YtihkhjbbfpnndaaJ3
import Derived.Maps.AppendAt
import Derived.Deep.RegionHeld3
import Derived.Test.YtihkhjbbfpnndaaJ5
import Derived.Test.YtihkhjbbfpnndaaJ6
import Derived.Deep.DeepCutAuto
import Derived.Deep.CutBlock
namespace Go.Proofs.Ytihkhjbbfpnndaa
open Go.RowKit
set_option linter.unusedVariables false
set_option maxRecDepth 100000

theorem wpList_append_brow {P : Program} (w : World) {ops : Array Oper} {rest : List Oper} {o : Oper} {a : Act} {Q : Exit → Act → World → Prop} (hgd : o.guard = none) (s x : Operand) (t : TypeId)
    (ho : o.op = .call { callee := .builtin .append, args := #[s, x], argTypes := #[t, t] }) (base : Nat) (i : TypeInfo) (ht : P.underlying t = some (.slice 5)) (hi : P.info? 5 = some i) (hz : i.zero = some (.int .u8 0)) (hsize : i.size = 1) (hby : i.bytes = 1)
    (v : Value) (n : Nat) (xs : List Int) (hs : a.eval s = v) (hown : w.ownsRow base 5 1 v n (xs.map (Value.int .u8))) (ad : Option Addr) (m c : Nat) (zs : List Int) (hx : a.eval x = .slice ad m c) (hr : BRow w ad m zs) (hc : ad = none → c = 0)
    (h63 : n + m ≤ 1099511627776) (hbase : base ≤ w.heap.size)
    (h : ∀ a' c' w', w'.ownsRow base 5 1 (.slice a' (n + m) c') (n + m) ((xs ++ zs).map (Value.int .u8)) → w.grownBy w' v.ownBlock → wpList P ops Q rest (a.put o.dst (.slice a' (n + m) c')) w') : wpList P ops Q (o :: rest) a w := by
  cases ad with
  | none =>
    obtain rfl : m = 0 := hr.2.2.1 rfl
    obtain rfl : zs = [] := List.length_eq_zero_iff.1 hr.1
    obtain rfl : c = 0 := hc rfl
    refine wpList_append_own_none hgd s x t ho base 5 i 1 ht hi v n _ hs hown hx ?_
    obtain ⟨a', c', hv⟩ := own_shape hown
    have := h a' c' w (by rw [Nat.add_zero, List.append_nil, ← hv]; exact hown) (grownBy_refl w _)
    rw [Nat.add_zero, ← hv] at this
    exact this
  | some ad =>
    refine wpList_append_own w hgd s x t ho base 5 i (.int .u8 0) 1 1 ht hi hz hsize hby rfl (by decide) v n _ hs hown ad m c (zs.map (Value.int .u8)) hx (by simp [hr.1]) ?_ ?_ ?_ ?_ hbase ?_
    · intro j u hj
      have hjl : j < zs.length := by have := (List.getElem?_eq_some_iff.1 hj).1; simpa using this
      rw [hr.2.2.2 ad rfl j (by rw [← hr.1]; exact hjl)]
      rw [List.getElem?_map, List.getElem?_eq_getElem hjl] at hj
      rw [getD_at _ _ hjl]
      exact hj
    · intro u hu; obtain ⟨z, _, rfl⟩ := List.mem_map.1 hu; rfl
    · unfold maxLen; omega
    · omega
    · intro v' w' hown' hg _
      obtain ⟨a', c', hv⟩ := own_shape hown'
      rw [hv] at hown' ⊢
      exact h a' c' w' (by rw [List.map_append]; exact hown') hg

/-- What is owned is no bare nil of some room. -/
theorem own_cap {w : World} {B n cap : Nat} {a : Option Addr} {e : TypeId} {xs : List Value} {size : Nat} (h : w.ownsRow B e size (.slice a n cap) n xs) : a = none → cap = 0 := by
  intro ha
  rcases h.2 with ⟨h', _⟩ | ⟨g, cap', cur, h', _⟩
  · simp only [Value.slice.injEq] at h'; exact h'.2.2
  · simp only [Value.slice.injEq] at h'; rw [ha] at h'; simp at h'

end Go.Proofs.Ytihkhjbbfpnndaa

/- What is proved here: what bytes.Clone answers: the same bytes in new memory. -/
namespace Go.Proofs.Ytihkhjbbfpnndaa
open Go.RowKit
set_option linter.unusedVariables false
set_option maxRecDepth 100000

set_option maxHeartbeats 1000000 in
theorem clone_any (a : Option Addr) (n cap : Nat) (zs : List Int) (w : World) (h : BRow w a n zs) (hn : n ≤ 1048576) :
    Calls Try.prog 28 #[.slice a n cap] w fun e w' => ∃ (a' : Option Addr) (cap' : Nat), e = .returned (.slice a' n cap') ∧ w'.ownsRow w.heap.size 5 1 (.slice a' n cap') n (zs.map (Value.int .u8)) ∧ Below w.heap.size w w' := by
  obtain ⟨i0, hi, hz0, hz1, hz2⟩ := info_parts info5
  have qT : ∀ (w : World) (a : Option Addr) (n c n' c' : Nat), (binOp .eql 23 (.slice a n c) (.slice none n' c')).run Try.prog w = .ok (.bool a.isNone) w := fun w a n c n' c' => Lib.run_eql_slice_nil w _ _ a n c n' c' Try.underlying23
  have hown0 : (w.alloc (.cells #[] 5)).ownsRow w.heap.size 5 1 (.slice (some ⟨w.heap.size, 0, none⟩) 0 0) 0 (([] : List Int).map (Value.int .u8)) := World.ownsRow_lit w #[] 0 (Nat.le_refl _) (by unfold maxLen; omega) rfl
  have hb := below_alloc w (.cells #[] 5)
  have hr := h.below hb (Nat.le_refl _)
  cases a with
  | none =>
    obtain rfl : n = 0 := h.2.2.1 rfl
    obtain rfl : zs = [] := List.length_eq_zero_iff.1 h.1
    clear h hr hb hown0
    go_enter Try.func28, Try.ntmps28
    go_wp2_with fail
    go_ret
    exact ⟨none, 0, rfl, World.ownsRow_nil _ _ _ _, Below.refl _ _⟩
  | some x =>
    have HR := hide hr
    have HB := hide hb
    clear h hr hb
    go_enter Try.func28, Try.ntmps28
    go_wp2_with (at_builtin; refine wpList_append_brow _ rfl _ _ 23 rfl w.heap.size i0 Try.underlying23 hi hz0 hz1 hz2 _ 0 [] rfl hown0 (some x) n cap zs rfl (unhide HR) (fun e => by cases e) (by omega) (unhide HB).size ?_)
    intro a3 c3 w3 o3 g3
    have B3 : Below w.heap.size w w3 := (unhide HB).grown g3 (unhide HB).size (fun g e => (hown0.lt g e).1)
    have HO := hide o3
    have HB3 := hide B3
    clear o3 g3 B3 hown0
    go_wp2_with fail
    go_ret
    refine ⟨a3, c3, by simp, ?_, unhide HB3⟩
    simpa using unhide HO

end Go.Proofs.Ytihkhjbbfpnndaa

/- What is proved here: what slices.Clone answers at a list of slices of bytes: the same slices in a row of its own. -/
namespace Go.Proofs.Ytihkhjbbfpnndaa
open Go.RowKit
set_option linter.unusedVariables false
set_option maxRecDepth 100000

/-- The slices of a list that came in. -/
theorem BsRow.slices {w : World} {b off len : Nat} {zss : List (List Int)} (h : BsRow w (some ⟨b, off, none⟩) len zss) :
    ∃ es : List Sl, es.length = len ∧ (∀ i e, es[i]? = some e → w.cell? ⟨b, off + i, none⟩ = some e.v) ∧ ∀ (i : Nat) (e : Sl) (z : List Int), es[i]? = some e → zss[i]? = some z → BRow w e.a e.n z := by
  have key : ∀ k, k ≤ len → ∃ es : List Sl, es.length = k ∧ (∀ i e, es[i]? = some e → w.cell? ⟨b, off + i, none⟩ = some e.v) ∧ ∀ (i : Nat) (e : Sl) (z : List Int), es[i]? = some e → zss[i]? = some z → BRow w e.a e.n z := by
    intro k
    induction k with
    | zero => exact fun _ => ⟨[], rfl, fun i e he => by simp at he, fun i e z he => by simp at he⟩
    | succ k ih =>
      intro hk
      obtain ⟨es, h1, h2, h3⟩ := ih (by omega)
      obtain ⟨z, hz⟩ : ∃ z, zss[k]? = some z := ⟨_, List.getElem?_eq_getElem (by rw [h.1]; omega)⟩
      obtain ⟨b', off', e', hat⟩ := h.2.2 (by omega)
      simp only [Option.some.injEq, Addr.mk.injEq, and_true] at e'
      obtain ⟨rfl, rfl⟩ := e'
      obtain ⟨sa, sl, sc, hc, hr⟩ := hat k z hz
      refine ⟨es ++ [⟨sa, sl, sc⟩], by simp [h1], fun i e he => ?_, fun i e y he hy => ?_⟩
      · by_cases hi : i < k
        · rw [List.getElem?_append_left (by omega)] at he; exact h2 i e he
        · have hi2 : i = k := by
            have := (List.getElem?_eq_some_iff.1 he).1
            simp at this
            omega
          subst hi2
          rw [List.getElem?_append_right (by omega), h1, Nat.sub_self] at he
          simp at he
          subst he
          exact hc
      · by_cases hi : i < k
        · rw [List.getElem?_append_left (by omega)] at he; exact h3 i e y he hy
        · have hi2 : i = k := by
            have := (List.getElem?_eq_some_iff.1 he).1
            simp at this
            omega
          subst hi2
          rw [List.getElem?_append_right (by omega), h1, Nat.sub_self] at he
          simp at he
          subst he
          obtain rfl := Option.some.inj (hz.symm.trans hy)
          exact hr
  exact key len (Nat.le_refl _)

set_option maxHeartbeats 2000000 in
theorem cloneSS_any (a : Option Addr) (len cap : Nat) (zss : List (List Int)) (w : World) (h : BsRow w a len zss) (hl : len ≤ 1048576) :
    Calls Try.prog 35 #[.slice a len cap] w fun e w' => ∃ (a' : Option Addr) (c' : Nat) (es : List Sl), e = .returned (.slice a' len c') ∧ es.length = len ∧
      w'.ownsRow w.heap.size 23 1 (.slice a' len c') len (es.map Sl.v) ∧ (∀ (i : Nat) (e : Sl) (z : List Int), es[i]? = some e → zss[i]? = some z → BRow w e.a e.n z) ∧ Below w.heap.size w w' := by
  obtain ⟨i0, hi, hz0, hz1, hz2⟩ := info_parts infoSB
  have qT : ∀ (w : World) (a : Option Addr) (n c n' c' : Nat), (binOp .eql 22 (.slice a n c) (.slice none n' c')).run Try.prog w = .ok (.bool a.isNone) w := fun w a n c n' c' => Lib.run_eql_slice_nil w _ _ a n c n' c' Try.underlying22
  cases a with
  | none =>
    have h0 : len = 0 := by
      rcases Nat.eq_zero_or_pos len with h0 | hp
      · exact h0
      · obtain ⟨_, _, e, _⟩ := h.2.2 hp; cases e
    subst h0
    clear h
    go_enter Try.func35, Try.ntmps35
    go_wp2_with fail
    go_ret
    exact ⟨none, 0, [], rfl, rfl, World.ownsRow_nil _ _ _ _, fun i e z he => by simp at he, Below.refl _ _⟩
  | some x =>
    have hown0 : (w.alloc (.cells #[] 23)).ownsRow w.heap.size 23 1 (.slice (some ⟨w.heap.size, 0, none⟩) 0 0) 0 [] := World.ownsRow_lit w #[] 0 (Nat.le_refl _) (by unfold maxLen; omega) rfl
    have hb := below_alloc w (.cells #[] 23)
    obtain ⟨es, s1, s2, s3⟩ : ∃ es : List Sl, es.length = len ∧ (∀ j u, (es.map Sl.v)[j]? = some u → (w.alloc (.cells #[] 23)).cell? (x.add j) = some u) ∧ ∀ (i : Nat) (e : Sl) (z : List Int), es[i]? = some e → zss[i]? = some z → BRow w e.a e.n z := by
      rcases Nat.eq_zero_or_pos len with h0 | hp
      · subst h0
        exact ⟨[], rfl, fun j u hu => by simp at hu, fun i e z he => by simp at he⟩
      · obtain ⟨b, off, e, _⟩ := h.2.2 hp
        cases e
        obtain ⟨es, s1, s2, s3⟩ := h.slices
        refine ⟨es, s1, fun j u hu => ?_, s3⟩
        rw [List.getElem?_map] at hu
        obtain ⟨e, he, rfl⟩ := Option.map_eq_some_iff.1 hu
        have hc := s2 j e he
        rw [add_none]
        exact (hb.cell (lt_of_cell hc)).trans hc
    have HS2 := hide s2
    have HS3 := hide s3
    have HB := hide hb
    clear h s2 s3 hb
    go_enter Try.func35, Try.ntmps35
    go_wp2_with (at_builtin; refine wpList_append_own _ rfl _ _ 22 rfl w.heap.size 23 i0 (.slice none 0 0) 1 24 Try.underlying22 hi hz0 hz1 hz2 rfl (by decide) _ _ _ rfl hown0 x len cap (es.map Sl.v) rfl ?c0 ?c1 ?c2 ?c3 ?c4 ?c5 ?_)
    case c0 => simp [s1]
    case c1 => exact unhide HS2
    case c2 => intro u hu; obtain ⟨z, _, rfl⟩ := List.mem_map.1 hu; rfl
    case c3 => unfold maxLen; omega
    case c4 => omega
    case c5 => simp
    intro v' w2 hown2 hgrow _
    obtain ⟨a2, cap2, hvv⟩ := own_shape hown2
    have hb2 : Below w.heap.size w w2 := (unhide HB).grown hgrow (unhide HB).size (fun g e => (hown0.lt g e).1)
    rw [hvv] at hown2
    rw [hvv]
    have HO := hide hown2
    have HB2 := hide hb2
    clear hown2 hb2 hgrow hvv hown0 HB
    go_wp2_with fail
    go_ret
    refine ⟨a2, cap2, es, ?_, s1, ?_, unhide HS3, unhide HB2⟩
    · simp
    · simpa using unhide HO

end Go.Proofs.Ytihkhjbbfpnndaa

/- What is proved here: what the program's copyLists answers: the same list in memory of its own, down to the bytes. -/
namespace Go.Proofs.Ytihkhjbbfpnndaa
open Go.RowKit
set_option linter.unusedVariables false
set_option maxRecDepth 100000

/-- A list whose first k slices are copied. -/
def PS (B : Nat) (wr : World) (d : Nat → Nat) (r c : Nat) (s : Sl) (zss : List (List Int)) (es : List Sl) (k : Nat) : Prop :=
  ∃ fs : List Sl, fs.length = zss.length ∧ wr.ownsRow B 23 1 (.slice s.a s.n s.c) s.n (fs.map Sl.v) ∧ (∀ g, (Value.slice s.a s.n s.c).ownBlock = some g → d g = r) ∧
    (∀ (i : Nat) (e : Sl) (z : List Int), i < k → fs[i]? = some e → zss[i]? = some z → CB wr B d (c + 3 * i) e z) ∧ ∀ i, k ≤ i → fs[i]? = es[i]?

theorem PS.cell {B : Nat} {wr : World} {d : Nat → Nat} {r c : Nat} {s : Sl} {zss : List (List Int)} {es : List Sl} {k : Nat} (h : PS B wr d r c s zss es k) (hn : s.n = zss.length) (hk : k < zss.length) {e : Sl} (he : es[k]? = some e) :
    ∃ g, s.a = some ⟨g, 0, none⟩ ∧ wr.cell? ⟨g, k, none⟩ = some (.slice e.a e.n e.c) ∧ wr.frozen? ⟨g, k, none⟩ = false ∧ B ≤ g ∧ g < wr.heap.size := by
  obtain ⟨fs, h1, h2, h3, h4, h5⟩ := h
  obtain ⟨g, cap, hv⟩ := own_some h2 (by omega)
  have hv2 := hv
  simp only [Value.slice.injEq] at hv2
  rw [hv] at h2
  refine ⟨g, hv2.1, ?_, h2.frozenAt k, own_lt h2 g rfl⟩
  rw [h2.cellAt k (by omega), List.getElem?_map, h5 k (Nat.le_refl _), he]
  rfl

theorem PS.step {B : Nat} {wr w2 : World} {d : Nat → Nat} {r c : Nat} {s : Sl} {zss : List (List Int)} {es : List Sl} {k g : Nat} (h : PS B wr d r c s zss es k) (hn : s.n = zss.length) (hk : k < zss.length) {z : List Int} (hz : zss[k]? = some z) (hr : ∀ i, r ≠ c + 3 * i)
    (hB : B ≤ wr.heap.size) (hg : s.a = some ⟨g, 0, none⟩) {a : Option Addr} {n c' : Nat} (hl : n = z.length) (hrg : ∀ x ∈ z, 0 ≤ x ∧ x ≤ 255) (ho : w2.ownsRow wr.heap.size 5 1 (.slice a n c') n (z.map (Value.int .u8))) (hb : Below wr.heap.size wr w2) :
    PS B (w2.setCell ⟨g, k, none⟩ (.slice a n c')) (fun q => if wr.heap.size ≤ q then c + 3 * k else d q) r c s zss es (k + 1) := by
  obtain ⟨fs, h1, h2, h3, h4, h5⟩ := h
  obtain ⟨sa, sn, sc⟩ := s
  simp only at hn hg h2 h3
  subst hg
  have hgl := own_lt h2 g rfl
  have hdg : ∀ q, q < wr.heap.size → (if wr.heap.size ≤ q then c + 3 * k else d q) = d q := fun q hq => if_neg (by omega)
  have h2' := own_below h2 hb (Nat.le_refl _)
  have st := h2'.stored k (.slice a n c')
  have hrow : (if wr.heap.size ≤ g then c + 3 * k else d g) = r := by rw [hdg g hgl.2]; exact h3 g rfl
  have on : OnlyD B (fun q => if wr.heap.size ≤ q then c + 3 * k else d q) (fun q => q = r) w2 (w2.setCell ⟨g, k, none⟩ (.slice a n c')) := OnlyD.grown st.2 (Nat.le_trans hB hb.size) (fun q e => by have := Option.some.inj e; subst this; exact ⟨hgl.1, hrow⟩)
  refine ⟨fs.set k ⟨a, n, c'⟩, by rw [List.length_set]; exact h1, by rw [List.map_set]; exact st.1, fun q hq => by have := Option.some.inj hq; subst this; exact hrow, fun i e y hi he hy => ?_, fun i hi => ?_⟩
  · rw [List.getElem?_set] at he
    by_cases hik : k = i
    · subst hik
      rw [if_pos rfl, if_pos (by omega)] at he
      obtain rfl := Option.some.inj he
      obtain rfl := Option.some.inj (hz.symm.trans hy)
      exact (CB.new (d := d) (j := c + 3 * k) hl hrg ho hB).only on (fun q => hr k q.symm)
    · rw [if_neg hik] at he
      exact (((h4 i e y (by omega) he hy).recol (d' := fun q => if wr.heap.size ≤ q then c + 3 * k else d q) hdg).below hb (Nat.le_refl _)).only on (fun q => hr i q.symm)
  · rw [List.getElem?_set, if_neg (by omega)]
    exact h5 i (by omega)

set_option maxHeartbeats 4000000 in
theorem copyLists_any (r c : Nat) (hr : ∀ i, r ≠ c + 3 * i) (a : Option Addr) (len cap : Nat) (zss : List (List Int)) (w : World) (h : BsRow w a len zss) (hl : len ≤ 1048576) (hz : ∀ z ∈ zss, z.length ≤ 1048576) :
    Calls Try.prog 29 #[.slice a len cap] w fun e w' => ∃ (s : Sl) (d : Nat → Nat), e = .returned (.slice s.a s.n s.c) ∧ CS w' w.heap.size d r c s zss ∧ Below w.heap.size w w' := by
  have hil := h.1
  have HBY := hide h.bytes
  have D1 := hide (cloneSS_any a len cap zss w h hl)
  have HL := hide hil
  have HZ := hide hz
  have HR := hide hr
  clear h hil hz hr
  go_enter Try.func29, Try.ntmps29
  go_wp2_with fail
  refine (unhide D1).mono ?_
  rintro e w2 ⟨a2, c2, es, rfl, hes, o2, hbr, b2⟩
  have P0 : PS w.heap.size w2 (fun _ => r) r c ⟨a2, len, c2⟩ zss es 0 := ⟨es, by rw [unhide HL]; exact hes, o2, fun _ _ => rfl, fun i e z hi => absurd hi (Nat.not_lt_zero _), fun i _ => rfl⟩
  have HP := hide P0
  have HBR := hide hbr
  have HB2 := hide b2
  clear D1 o2 b2 hbr P0
  go_wp2_with fail
  go_loopw [10] (fun i wr => ∃ (k : Nat) (d : Nat → Nat), k ≤ len ∧ i = .int .i64 k ∧ PS w.heap.size wr d r c ⟨a2, len, c2⟩ zss es k ∧ Below w.heap.size w wr) (fun i _ => len - (intOf i).toNat)
  case atStart => exact ⟨0, fun _ => r, Nat.zero_le _, rfl, unhide HP, unhide HB2⟩
  case round =>
    obtain ⟨k, d, hk, rfl, hps, hbr⟩ := hrel
    clear HP HB2
    by_cases hlt : k < len
    · have hkz : k < zss.length := by rw [unhide HL]; exact hlt
      obtain ⟨z, hit⟩ : ∃ z, zss[k]? = some z := ⟨_, List.getElem?_eq_getElem hkz⟩
      obtain ⟨e, hee⟩ : ∃ e, es[k]? = some e := ⟨_, List.getElem?_eq_getElem (by omega)⟩
      obtain ⟨g, hga, hcell, hfz, hgB, hgl⟩ := hps.cell (unhide HL).symm hkz hee
      simp only at hga
      subst hga
      have hrow := ((unhide HBR) k e z hee hit).below hbr (Nat.le_refl _)
      have hzl := (unhide HZ) z (List.mem_of_getElem? hit)
      have hel : z.length = e.n := hrow.1
      have DC := hide (clone_any e.a e.n e.c z wr hrow (by omega))
      have HST : Hid (∀ w2 a c', w2.ownsRow wr.heap.size 5 1 (.slice a e.n c') e.n (z.map (Value.int .u8)) → Below wr.heap.size wr w2 → (∃ u, w2.cell? ⟨g, k, none⟩ = some u) ∧ w2.frozen? ⟨g, k, none⟩ = false ∧ PS w.heap.size (w2.setCell ⟨g, k, none⟩ (.slice a e.n c')) (fun q => if wr.heap.size ≤ q then c + 3 * k else d q) r c ⟨some ⟨g, 0, none⟩, len, c2⟩ zss es (k + 1) ∧ Below w.heap.size w (w2.setCell ⟨g, k, none⟩ (.slice a e.n c'))) := fun w2 a c' ho hb => by
        refine ⟨⟨_, (hb.cell (p := ⟨g, k, none⟩) hgl).trans hcell⟩, ?_, hps.step (unhide HL).symm hkz hit (unhide HR) hbr.size rfl hel.symm ((unhide HBY) z (List.mem_of_getElem? hit)) ho hb, (hbr.trans (hb.mono hbr.size)).setCell (p := ⟨g, k, none⟩) hgB _⟩
        rw [World.frozen?_of_block (hb.block g hgl)]
        exact hfz
      have k1 : (0 : Int) ≤ (k : Int) := by omega
      have k2 : (k : Int) < (len : Int) := by omega
      have HB := hide hbr
      clear hps hbr hit hee hrow hel hzl hfz
      go_wp2_with fail
      refine (unhide DC).mono ?_
      rintro ev w3 ⟨a3, c3, rfl, o3, b3⟩
      obtain ⟨⟨u, hu⟩, hf, hP, hB3⟩ := (unhide HST) w3 a3 c3 o3 b3
      have HP := hide hP
      have HB3 := hide hB3
      clear HST DC o3 b3 hP hB3 hcell
      go_wp2_with fail
      go_roundw
      case rel => exact ⟨k + 1, _, by omega, by go_num, unhide HP, unhide HB3⟩
      case measure => simp [intOf]; omega
    · obtain rfl : k = len := by omega
      have hcs : CS wr w.heap.size d r c ⟨a2, k, c2⟩ zss := by
        obtain ⟨fs, h1, h2, h3, h4, h5⟩ := hps
        exact ⟨(unhide HL).symm, fs, h1, h2, h3, fun i e z he hz => h4 i e z (by have := (List.getElem?_eq_some_iff.1 hz).1; have := unhide HL; omega) he hz⟩
      have HC := hide hcs
      have HB := hide hbr
      clear hps hbr hcs
      go_wp2_with fail
      go_ret
      exact ⟨⟨a2, k, c2⟩, d, rfl, unhide HC, unhide HB⟩

end Go.Proofs.Ytihkhjbbfpnndaa

/- What is proved here: what the program's copyHeader answers: the same header in memory of its own. -/
namespace Go.Proofs.Ytihkhjbbfpnndaa
open Go.RowKit
set_option linter.unusedVariables false
set_option maxRecDepth 100000

set_option maxHeartbeats 8000000 in
theorem copyHeader_any (x : HS) (h : Hd) (w : World) (o : HOk w x h) (m : HSm h) :
    Calls Try.prog 22 #[.agg (hvals x h)] w fun e w' => ∃ (y : HS) (d : Nat → Nat), e = .returned (.agg (hvals y h)) ∧ CH w' (w.heap.size + 2) d y h ∧ Below w.heap.size w w' := by
  have kb := SBlk.new w (hvals x h) 26
  have bb := below_alloc w (.cells (hvals x h) 26)
  have zb : (w.alloc (.cells (hvals x h) 26)).heap.size = w.heap.size + 1 := by simp
  obtain ⟨W, eb⟩ : ∃ W, w.alloc (.cells (hvals x h) 26) = W := ⟨_, rfl⟩
  rw [eb] at kb bb zb
  have kr := SBlk.new W #[.slice none 0 0, .int .i64 0, .int .i64 0, .int .i64 0, .slice none 0 0, .int .i64 0, .slice none 0 0, .slice none 0 0, .slice none 0 0, .slice none 0 0, .slice none 0 0] 26
  have kb := kb.next (.cells #[.slice none 0 0, .int .i64 0, .int .i64 0, .int .i64 0, .slice none 0 0, .int .i64 0, .slice none 0 0, .slice none 0 0, .slice none 0 0, .slice none 0 0, .slice none 0 0] 26)
  have K0 := bb.trans ((below_alloc W (.cells #[.slice none 0 0, .int .i64 0, .int .i64 0, .int .i64 0, .slice none 0 0, .int .i64 0, .slice none 0 0, .slice none 0 0, .slice none 0 0, .slice none 0 0, .slice none 0 0] 26)).mono bb.size)
  have z0 : (W.alloc (.cells #[.slice none 0 0, .int .i64 0, .int .i64 0, .int .i64 0, .slice none 0 0, .int .i64 0, .slice none 0 0, .slice none 0 0, .slice none 0 0, .slice none 0 0, .slice none 0 0] 26)).heap.size = w.heap.size + 2 := by simp; omega
  rw [zb] at kr
  obtain ⟨W0, e0⟩ : ∃ W0, W.alloc (.cells #[.slice none 0 0, .int .i64 0, .int .i64 0, .int .i64 0, .slice none 0 0, .int .i64 0, .slice none 0 0, .slice none 0 0, .slice none 0 0, .slice none 0 0, .slice none 0 0] 26) = W0 := ⟨_, rfl⟩
  rw [e0] at kr kb K0 z0
  have HO := hide (fun (W : World) (hb : Below w.heap.size w W) => o.below hb (Nat.le_refl _))
  have HM := hide m
  have hB0 : w.heap.size + 2 ≤ W0.heap.size := by omega
  obtain ⟨d, hd⟩ : ∃ d : Nat → Nat, d = fun _ => 0 := ⟨_, rfl⟩
  clear hd bb zb z0 o m
  have EB := hide eb
  have E0 := hide e0
  clear eb e0
  unfold hvals at EB kb ⊢
  go_enter Try.func22, Try.ntmps22
  go_upto_region 1 with fail
  rw [unhide EB, unhide E0]
  clear EB E0
  have c1 := kb.cell 0
  have f1 := kb.free 0
  simp only [List.getElem?_cons_zero] at c1
  have l1 : h.p.length = x.p.n := (unhide HO _ K0).p.1
  have D1 := hide (clone_any x.p.a x.p.n x.p.c h.p W0 (unhide HO _ K0).p (by have := (unhide HM).p; omega))
  go_wp2_with fail
  refine (unhide D1).mono ?_
  rintro ev v1 ⟨a1, c'1, rfl, ow1, b1⟩
  obtain ⟨d', hd'⟩ : ∃ d' : Nat → Nat, d' = fun g => if W0.heap.size ≤ g then 0 else d g := ⟨_, rfl⟩
  obtain ⟨yp, hyp⟩ : ∃ y : Sl, y = ⟨a1, x.p.n, c'1⟩ := ⟨_, rfl⟩
  have n_p : CB v1 (w.heap.size + 2) d' 0 yp h.p := by rw [hyp, hd']; exact CB.new l1.symm (unhide HO _ K0).p.2.1 ow1 hB0
  have q1 : Value.slice a1 x.p.n c'1 = .slice yp.a yp.n yp.c := by rw [hyp]
  have hB1' : w.heap.size + 2 ≤ v1.heap.size := Nat.le_trans hB0 b1.size
  replace c1 := (b1.cell (p := ⟨w.heap.size, 0, none⟩) (by show w.heap.size < W0.heap.size; omega)).trans c1
  replace f1 : v1.frozen? ⟨w.heap.size, 0, none⟩ = false := by rw [World.frozen?_of_block (b1.block w.heap.size (by omega))]; exact f1
  replace kb := ((kb.below b1 (by omega)).set 0 (.slice yp.a yp.n yp.c))
  simp only [List.set_cons_zero] at kb
  replace kr := (kr.below b1 (by omega)).other (g' := w.heap.size) (i := 0) (v := .slice yp.a yp.n yp.c) (by omega)
  have K1 := (K0.trans (b1.mono (by omega))).setCell (p := ⟨w.heap.size, 0, none⟩) (Nat.le_refl _) (.slice yp.a yp.n yp.c)
  have m_p := n_p.set (p := ⟨w.heap.size, 0, none⟩) (v := .slice yp.a yp.n yp.c) (by show w.heap.size < w.heap.size + 2; omega)
  have hB1 : w.heap.size + 2 ≤ (v1.setCell ⟨w.heap.size, 0, none⟩ (.slice yp.a yp.n yp.c)).heap.size := by rw [size_set']; exact hB1'
  rw [q1]
  clear q1 hd' hyp n_p b1 D1 hB1' ow1 l1 d
  obtain ⟨d, hd⟩ : ∃ d : Nat → Nat, d = d' := ⟨_, rfl⟩
  rw [← hd] at m_p
  clear hd d'
  obtain ⟨W1, e1⟩ : ∃ W, v1.setCell ⟨w.heap.size, 0, none⟩ (.slice yp.a yp.n yp.c) = W := ⟨_, rfl⟩
  rw [e1] at kb kr K1 hB1 m_p
  have E1 := hide e1
  clear e1
  go_upto_region 2 with fail
  rw [unhide E1]
  clear E1 c1 f1 K0 hB0
  have c2 := kb.cell 4
  have f2 := kb.free 4
  simp only [List.getElem?_cons_zero, List.getElem?_cons_succ] at c2
  have l2 : h.t.length = x.t.n := (unhide HO _ K1).t.1
  have D2 := hide (clone_any x.t.a x.t.n x.t.c h.t W1 (unhide HO _ K1).t (by have := (unhide HM).t; omega))
  go_wp2_with fail
  refine (unhide D2).mono ?_
  rintro ev v2 ⟨a2, c'2, rfl, ow2, b2⟩
  obtain ⟨d', hd'⟩ : ∃ d' : Nat → Nat, d' = fun g => if W1.heap.size ≤ g then 1 else d g := ⟨_, rfl⟩
  obtain ⟨yt, hyt⟩ : ∃ y : Sl, y = ⟨a2, x.t.n, c'2⟩ := ⟨_, rfl⟩
  have n_t : CB v2 (w.heap.size + 2) d' 1 yt h.t := by rw [hyt, hd']; exact CB.new l2.symm (unhide HO _ K1).t.2.1 ow2 hB1
  have q2 : Value.slice a2 x.t.n c'2 = .slice yt.a yt.n yt.c := by rw [hyt]
  replace m_p := (m_p.recol (d' := d') (fun g hg => by rw [hd']; exact if_neg (by omega))).below b2 (Nat.le_refl _)
  have hB2' : w.heap.size + 2 ≤ v2.heap.size := Nat.le_trans hB1 b2.size
  replace c2 := (b2.cell (p := ⟨w.heap.size, 4, none⟩) (by show w.heap.size < W1.heap.size; omega)).trans c2
  replace f2 : v2.frozen? ⟨w.heap.size, 4, none⟩ = false := by rw [World.frozen?_of_block (b2.block w.heap.size (by omega))]; exact f2
  replace kb := ((kb.below b2 (by omega)).set 4 (.slice yt.a yt.n yt.c))
  simp only [List.set_cons_zero, List.set_cons_succ] at kb
  replace kr := (kr.below b2 (by omega)).other (g' := w.heap.size) (i := 4) (v := .slice yt.a yt.n yt.c) (by omega)
  have K2 := (K1.trans (b2.mono (by omega))).setCell (p := ⟨w.heap.size, 4, none⟩) (Nat.le_refl _) (.slice yt.a yt.n yt.c)
  have m_t := n_t.set (p := ⟨w.heap.size, 4, none⟩) (v := .slice yt.a yt.n yt.c) (by show w.heap.size < w.heap.size + 2; omega)
  replace m_p := m_p.set (p := ⟨w.heap.size, 4, none⟩) (v := .slice yt.a yt.n yt.c) (by show w.heap.size < w.heap.size + 2; omega)
  have hB2 : w.heap.size + 2 ≤ (v2.setCell ⟨w.heap.size, 4, none⟩ (.slice yt.a yt.n yt.c)).heap.size := by rw [size_set']; exact hB2'
  rw [q2]
  clear q2 hd' hyt n_t b2 D2 hB2' ow2 l2 d
  obtain ⟨d, hd⟩ : ∃ d : Nat → Nat, d = d' := ⟨_, rfl⟩
  rw [← hd] at m_t m_p
  clear hd d'
  obtain ⟨W2, e2⟩ : ∃ W, v2.setCell ⟨w.heap.size, 4, none⟩ (.slice yt.a yt.n yt.c) = W := ⟨_, rfl⟩
  rw [e2] at kb kr K2 hB2 m_p m_t
  have E2 := hide e2
  clear e2
  go_upto_region 3 with fail
  rw [unhide E2]
  clear E2 c2 f2 K1 hB1
  have c3 := kb.cell 6
  have f3 := kb.free 6
  simp only [List.getElem?_cons_zero, List.getElem?_cons_succ] at c3
  have D3 := hide (copyLists_any 5 7 (by omega) x.s.a x.s.n x.s.c h.s W2 (unhide HO _ K2).s (by have := (unhide HO _ K2).s.1; have := (unhide HM).s; omega) (unhide HM).sz)
  go_wp2_with fail
  refine (unhide D3).mono ?_
  rintro ev v3 ⟨s3, d3, rfl, cs3, b3⟩
  obtain ⟨d', hd'⟩ : ∃ d' : Nat → Nat, d' = fun g => if W2.heap.size ≤ g then d3 g else d g := ⟨_, rfl⟩
  obtain ⟨ys, hys⟩ : ∃ y : Sl, y = s3 := ⟨_, rfl⟩
  have n_s : CS v3 (w.heap.size + 2) d' 5 7 ys h.s := by rw [hys, hd']; exact (cs3.recol2 (fun g hg => if_pos hg)).base hB2
  have q3 : Value.slice s3.a s3.n s3.c = .slice ys.a ys.n ys.c := by rw [hys]
  replace m_p := (m_p.recol (d' := d') (fun g hg => by rw [hd']; exact if_neg (by omega))).below b3 (Nat.le_refl _)
  replace m_t := (m_t.recol (d' := d') (fun g hg => by rw [hd']; exact if_neg (by omega))).below b3 (Nat.le_refl _)
  have hB3' : w.heap.size + 2 ≤ v3.heap.size := Nat.le_trans hB2 b3.size
  replace c3 := (b3.cell (p := ⟨w.heap.size, 6, none⟩) (by show w.heap.size < W2.heap.size; omega)).trans c3
  replace f3 : v3.frozen? ⟨w.heap.size, 6, none⟩ = false := by rw [World.frozen?_of_block (b3.block w.heap.size (by omega))]; exact f3
  replace kb := ((kb.below b3 (by omega)).set 6 (.slice ys.a ys.n ys.c))
  simp only [List.set_cons_zero, List.set_cons_succ] at kb
  replace kr := (kr.below b3 (by omega)).other (g' := w.heap.size) (i := 6) (v := .slice ys.a ys.n ys.c) (by omega)
  have K3 := (K2.trans (b3.mono (by omega))).setCell (p := ⟨w.heap.size, 6, none⟩) (Nat.le_refl _) (.slice ys.a ys.n ys.c)
  have m_s := n_s.set (p := ⟨w.heap.size, 6, none⟩) (v := .slice ys.a ys.n ys.c) (by show w.heap.size < w.heap.size + 2; omega)
  replace m_p := m_p.set (p := ⟨w.heap.size, 6, none⟩) (v := .slice ys.a ys.n ys.c) (by show w.heap.size < w.heap.size + 2; omega)
  replace m_t := m_t.set (p := ⟨w.heap.size, 6, none⟩) (v := .slice ys.a ys.n ys.c) (by show w.heap.size < w.heap.size + 2; omega)
  have hB3 : w.heap.size + 2 ≤ (v3.setCell ⟨w.heap.size, 6, none⟩ (.slice ys.a ys.n ys.c)).heap.size := by rw [size_set']; exact hB3'
  rw [q3]
  clear q3 hd' hys n_s b3 D3 hB3' cs3 d
  obtain ⟨d, hd⟩ : ∃ d : Nat → Nat, d = d' := ⟨_, rfl⟩
  rw [← hd] at m_s m_p m_t
  clear hd d'
  obtain ⟨W3, e3⟩ : ∃ W, v3.setCell ⟨w.heap.size, 6, none⟩ (.slice ys.a ys.n ys.c) = W := ⟨_, rfl⟩
  rw [e3] at kb kr K3 hB3 m_p m_t m_s
  have E3 := hide e3
  clear e3
  go_upto_region 4 with fail
  rw [unhide E3]
  clear E3 c3 f3 K2 hB2
  have c4 := kb.cell 7
  have f4 := kb.free 7
  simp only [List.getElem?_cons_zero, List.getElem?_cons_succ] at c4
  have l4 : h.r.length = x.r.n := (unhide HO _ K3).r.1
  have D4 := hide (clone_any x.r.a x.r.n x.r.c h.r W3 (unhide HO _ K3).r (by have := (unhide HM).r; omega))
  go_wp2_with fail
  refine (unhide D4).mono ?_
  rintro ev v4 ⟨a4, c'4, rfl, ow4, b4⟩
  obtain ⟨d', hd'⟩ : ∃ d' : Nat → Nat, d' = fun g => if W3.heap.size ≤ g then 2 else d g := ⟨_, rfl⟩
  obtain ⟨yr, hyr⟩ : ∃ y : Sl, y = ⟨a4, x.r.n, c'4⟩ := ⟨_, rfl⟩
  have n_r : CB v4 (w.heap.size + 2) d' 2 yr h.r := by rw [hyr, hd']; exact CB.new l4.symm (unhide HO _ K3).r.2.1 ow4 hB3
  have q4 : Value.slice a4 x.r.n c'4 = .slice yr.a yr.n yr.c := by rw [hyr]
  replace m_p := (m_p.recol (d' := d') (fun g hg => by rw [hd']; exact if_neg (by omega))).below b4 (Nat.le_refl _)
  replace m_t := (m_t.recol (d' := d') (fun g hg => by rw [hd']; exact if_neg (by omega))).below b4 (Nat.le_refl _)
  replace m_s := (m_s.recol (d' := d') (fun g hg => by rw [hd']; exact if_neg (by omega))).below b4 (Nat.le_refl _)
  have hB4' : w.heap.size + 2 ≤ v4.heap.size := Nat.le_trans hB3 b4.size
  replace c4 := (b4.cell (p := ⟨w.heap.size, 7, none⟩) (by show w.heap.size < W3.heap.size; omega)).trans c4
  replace f4 : v4.frozen? ⟨w.heap.size, 7, none⟩ = false := by rw [World.frozen?_of_block (b4.block w.heap.size (by omega))]; exact f4
  replace kb := ((kb.below b4 (by omega)).set 7 (.slice yr.a yr.n yr.c))
  simp only [List.set_cons_zero, List.set_cons_succ] at kb
  replace kr := (kr.below b4 (by omega)).other (g' := w.heap.size) (i := 7) (v := .slice yr.a yr.n yr.c) (by omega)
  have K4 := (K3.trans (b4.mono (by omega))).setCell (p := ⟨w.heap.size, 7, none⟩) (Nat.le_refl _) (.slice yr.a yr.n yr.c)
  have m_r := n_r.set (p := ⟨w.heap.size, 7, none⟩) (v := .slice yr.a yr.n yr.c) (by show w.heap.size < w.heap.size + 2; omega)
  replace m_p := m_p.set (p := ⟨w.heap.size, 7, none⟩) (v := .slice yr.a yr.n yr.c) (by show w.heap.size < w.heap.size + 2; omega)
  replace m_t := m_t.set (p := ⟨w.heap.size, 7, none⟩) (v := .slice yr.a yr.n yr.c) (by show w.heap.size < w.heap.size + 2; omega)
  replace m_s := m_s.set (p := ⟨w.heap.size, 7, none⟩) (v := .slice yr.a yr.n yr.c) (by show w.heap.size < w.heap.size + 2; omega)
  have hB4 : w.heap.size + 2 ≤ (v4.setCell ⟨w.heap.size, 7, none⟩ (.slice yr.a yr.n yr.c)).heap.size := by rw [size_set']; exact hB4'
  rw [q4]
  clear q4 hd' hyr n_r b4 D4 hB4' ow4 l4 d
  obtain ⟨d, hd⟩ : ∃ d : Nat → Nat, d = d' := ⟨_, rfl⟩
  rw [← hd] at m_r m_p m_t m_s
  clear hd d'
  obtain ⟨W4, e4⟩ : ∃ W, v4.setCell ⟨w.heap.size, 7, none⟩ (.slice yr.a yr.n yr.c) = W := ⟨_, rfl⟩
  rw [e4] at kb kr K4 hB4 m_p m_t m_s m_r
  have E4 := hide e4
  clear e4
  go_upto_region 5 with fail
  rw [unhide E4]
  clear E4 c4 f4 K3 hB3
  have c5 := kb.cell 8
  have f5 := kb.free 8
  simp only [List.getElem?_cons_zero, List.getElem?_cons_succ] at c5
  have l5 : h.g.length = x.g.n := (unhide HO _ K4).g.1
  have D5 := hide (clone_any x.g.a x.g.n x.g.c h.g W4 (unhide HO _ K4).g (by have := (unhide HM).g; omega))
  go_wp2_with fail
  refine (unhide D5).mono ?_
  rintro ev v5 ⟨a5, c'5, rfl, ow5, b5⟩
  obtain ⟨d', hd'⟩ : ∃ d' : Nat → Nat, d' = fun g => if W4.heap.size ≤ g then 3 else d g := ⟨_, rfl⟩
  obtain ⟨yg, hyg⟩ : ∃ y : Sl, y = ⟨a5, x.g.n, c'5⟩ := ⟨_, rfl⟩
  have n_g : CB v5 (w.heap.size + 2) d' 3 yg h.g := by rw [hyg, hd']; exact CB.new l5.symm (unhide HO _ K4).g.2.1 ow5 hB4
  have q5 : Value.slice a5 x.g.n c'5 = .slice yg.a yg.n yg.c := by rw [hyg]
  replace m_p := (m_p.recol (d' := d') (fun g hg => by rw [hd']; exact if_neg (by omega))).below b5 (Nat.le_refl _)
  replace m_t := (m_t.recol (d' := d') (fun g hg => by rw [hd']; exact if_neg (by omega))).below b5 (Nat.le_refl _)
  replace m_s := (m_s.recol (d' := d') (fun g hg => by rw [hd']; exact if_neg (by omega))).below b5 (Nat.le_refl _)
  replace m_r := (m_r.recol (d' := d') (fun g hg => by rw [hd']; exact if_neg (by omega))).below b5 (Nat.le_refl _)
  have hB5' : w.heap.size + 2 ≤ v5.heap.size := Nat.le_trans hB4 b5.size
  replace c5 := (b5.cell (p := ⟨w.heap.size, 8, none⟩) (by show w.heap.size < W4.heap.size; omega)).trans c5
  replace f5 : v5.frozen? ⟨w.heap.size, 8, none⟩ = false := by rw [World.frozen?_of_block (b5.block w.heap.size (by omega))]; exact f5
  replace kb := ((kb.below b5 (by omega)).set 8 (.slice yg.a yg.n yg.c))
  simp only [List.set_cons_zero, List.set_cons_succ] at kb
  replace kr := (kr.below b5 (by omega)).other (g' := w.heap.size) (i := 8) (v := .slice yg.a yg.n yg.c) (by omega)
  have K5 := (K4.trans (b5.mono (by omega))).setCell (p := ⟨w.heap.size, 8, none⟩) (Nat.le_refl _) (.slice yg.a yg.n yg.c)
  have m_g := n_g.set (p := ⟨w.heap.size, 8, none⟩) (v := .slice yg.a yg.n yg.c) (by show w.heap.size < w.heap.size + 2; omega)
  replace m_p := m_p.set (p := ⟨w.heap.size, 8, none⟩) (v := .slice yg.a yg.n yg.c) (by show w.heap.size < w.heap.size + 2; omega)
  replace m_t := m_t.set (p := ⟨w.heap.size, 8, none⟩) (v := .slice yg.a yg.n yg.c) (by show w.heap.size < w.heap.size + 2; omega)
  replace m_s := m_s.set (p := ⟨w.heap.size, 8, none⟩) (v := .slice yg.a yg.n yg.c) (by show w.heap.size < w.heap.size + 2; omega)
  replace m_r := m_r.set (p := ⟨w.heap.size, 8, none⟩) (v := .slice yg.a yg.n yg.c) (by show w.heap.size < w.heap.size + 2; omega)
  have hB5 : w.heap.size + 2 ≤ (v5.setCell ⟨w.heap.size, 8, none⟩ (.slice yg.a yg.n yg.c)).heap.size := by rw [size_set']; exact hB5'
  rw [q5]
  clear q5 hd' hyg n_g b5 D5 hB5' ow5 l5 d
  obtain ⟨d, hd⟩ : ∃ d : Nat → Nat, d = d' := ⟨_, rfl⟩
  rw [← hd] at m_g m_p m_t m_s m_r
  clear hd d'
  obtain ⟨W5, e5⟩ : ∃ W, v5.setCell ⟨w.heap.size, 8, none⟩ (.slice yg.a yg.n yg.c) = W := ⟨_, rfl⟩
  rw [e5] at kb kr K5 hB5 m_p m_t m_s m_r m_g
  have E5 := hide e5
  clear e5
  go_upto_region 6 with fail
  rw [unhide E5]
  clear E5 c5 f5 K4 hB4
  have c6 := kb.cell 9
  have f6 := kb.free 9
  simp only [List.getElem?_cons_zero, List.getElem?_cons_succ] at c6
  have l6 : h.e.length = x.e.n := (unhide HO _ K5).e.1
  have D6 := hide (clone_any x.e.a x.e.n x.e.c h.e W5 (unhide HO _ K5).e (by have := (unhide HM).e; omega))
  go_wp2_with fail
  refine (unhide D6).mono ?_
  rintro ev v6 ⟨a6, c'6, rfl, ow6, b6⟩
  obtain ⟨d', hd'⟩ : ∃ d' : Nat → Nat, d' = fun g => if W5.heap.size ≤ g then 4 else d g := ⟨_, rfl⟩
  obtain ⟨ye, hye⟩ : ∃ y : Sl, y = ⟨a6, x.e.n, c'6⟩ := ⟨_, rfl⟩
  have n_e : CB v6 (w.heap.size + 2) d' 4 ye h.e := by rw [hye, hd']; exact CB.new l6.symm (unhide HO _ K5).e.2.1 ow6 hB5
  have q6 : Value.slice a6 x.e.n c'6 = .slice ye.a ye.n ye.c := by rw [hye]
  replace m_p := (m_p.recol (d' := d') (fun g hg => by rw [hd']; exact if_neg (by omega))).below b6 (Nat.le_refl _)
  replace m_t := (m_t.recol (d' := d') (fun g hg => by rw [hd']; exact if_neg (by omega))).below b6 (Nat.le_refl _)
  replace m_s := (m_s.recol (d' := d') (fun g hg => by rw [hd']; exact if_neg (by omega))).below b6 (Nat.le_refl _)
  replace m_r := (m_r.recol (d' := d') (fun g hg => by rw [hd']; exact if_neg (by omega))).below b6 (Nat.le_refl _)
  replace m_g := (m_g.recol (d' := d') (fun g hg => by rw [hd']; exact if_neg (by omega))).below b6 (Nat.le_refl _)
  have hB6' : w.heap.size + 2 ≤ v6.heap.size := Nat.le_trans hB5 b6.size
  replace c6 := (b6.cell (p := ⟨w.heap.size, 9, none⟩) (by show w.heap.size < W5.heap.size; omega)).trans c6
  replace f6 : v6.frozen? ⟨w.heap.size, 9, none⟩ = false := by rw [World.frozen?_of_block (b6.block w.heap.size (by omega))]; exact f6
  replace kb := ((kb.below b6 (by omega)).set 9 (.slice ye.a ye.n ye.c))
  simp only [List.set_cons_zero, List.set_cons_succ] at kb
  replace kr := (kr.below b6 (by omega)).other (g' := w.heap.size) (i := 9) (v := .slice ye.a ye.n ye.c) (by omega)
  have K6 := (K5.trans (b6.mono (by omega))).setCell (p := ⟨w.heap.size, 9, none⟩) (Nat.le_refl _) (.slice ye.a ye.n ye.c)
  have m_e := n_e.set (p := ⟨w.heap.size, 9, none⟩) (v := .slice ye.a ye.n ye.c) (by show w.heap.size < w.heap.size + 2; omega)
  replace m_p := m_p.set (p := ⟨w.heap.size, 9, none⟩) (v := .slice ye.a ye.n ye.c) (by show w.heap.size < w.heap.size + 2; omega)
  replace m_t := m_t.set (p := ⟨w.heap.size, 9, none⟩) (v := .slice ye.a ye.n ye.c) (by show w.heap.size < w.heap.size + 2; omega)
  replace m_s := m_s.set (p := ⟨w.heap.size, 9, none⟩) (v := .slice ye.a ye.n ye.c) (by show w.heap.size < w.heap.size + 2; omega)
  replace m_r := m_r.set (p := ⟨w.heap.size, 9, none⟩) (v := .slice ye.a ye.n ye.c) (by show w.heap.size < w.heap.size + 2; omega)
  replace m_g := m_g.set (p := ⟨w.heap.size, 9, none⟩) (v := .slice ye.a ye.n ye.c) (by show w.heap.size < w.heap.size + 2; omega)
  have hB6 : w.heap.size + 2 ≤ (v6.setCell ⟨w.heap.size, 9, none⟩ (.slice ye.a ye.n ye.c)).heap.size := by rw [size_set']; exact hB6'
  rw [q6]
  clear q6 hd' hye n_e b6 D6 hB6' ow6 l6 d
  obtain ⟨d, hd⟩ : ∃ d : Nat → Nat, d = d' := ⟨_, rfl⟩
  rw [← hd] at m_e m_p m_t m_s m_r m_g
  clear hd d'
  obtain ⟨W6, e6⟩ : ∃ W, v6.setCell ⟨w.heap.size, 9, none⟩ (.slice ye.a ye.n ye.c) = W := ⟨_, rfl⟩
  rw [e6] at kb kr K6 hB6 m_p m_t m_s m_r m_g m_e
  have E6 := hide e6
  clear e6
  go_upto_region 7 with fail
  rw [unhide E6]
  clear E6 c6 f6 K5 hB5
  have c7 := kb.cell 10
  have f7 := kb.free 10
  simp only [List.getElem?_cons_zero, List.getElem?_cons_succ] at c7
  have D7 := hide (copyLists_any 6 8 (by omega) x.k.a x.k.n x.k.c h.k W6 (unhide HO _ K6).k (by have := (unhide HO _ K6).k.1; have := (unhide HM).k; omega) (unhide HM).kz)
  go_wp2_with fail
  refine (unhide D7).mono ?_
  rintro ev v7 ⟨s7, d7, rfl, cs7, b7⟩
  obtain ⟨d', hd'⟩ : ∃ d' : Nat → Nat, d' = fun g => if W6.heap.size ≤ g then d7 g else d g := ⟨_, rfl⟩
  obtain ⟨yk, hyk⟩ : ∃ y : Sl, y = s7 := ⟨_, rfl⟩
  have n_k : CS v7 (w.heap.size + 2) d' 6 8 yk h.k := by rw [hyk, hd']; exact (cs7.recol2 (fun g hg => if_pos hg)).base hB6
  have q7 : Value.slice s7.a s7.n s7.c = .slice yk.a yk.n yk.c := by rw [hyk]
  replace m_p := (m_p.recol (d' := d') (fun g hg => by rw [hd']; exact if_neg (by omega))).below b7 (Nat.le_refl _)
  replace m_t := (m_t.recol (d' := d') (fun g hg => by rw [hd']; exact if_neg (by omega))).below b7 (Nat.le_refl _)
  replace m_s := (m_s.recol (d' := d') (fun g hg => by rw [hd']; exact if_neg (by omega))).below b7 (Nat.le_refl _)
  replace m_r := (m_r.recol (d' := d') (fun g hg => by rw [hd']; exact if_neg (by omega))).below b7 (Nat.le_refl _)
  replace m_g := (m_g.recol (d' := d') (fun g hg => by rw [hd']; exact if_neg (by omega))).below b7 (Nat.le_refl _)
  replace m_e := (m_e.recol (d' := d') (fun g hg => by rw [hd']; exact if_neg (by omega))).below b7 (Nat.le_refl _)
  have hB7' : w.heap.size + 2 ≤ v7.heap.size := Nat.le_trans hB6 b7.size
  replace c7 := (b7.cell (p := ⟨w.heap.size, 10, none⟩) (by show w.heap.size < W6.heap.size; omega)).trans c7
  replace f7 : v7.frozen? ⟨w.heap.size, 10, none⟩ = false := by rw [World.frozen?_of_block (b7.block w.heap.size (by omega))]; exact f7
  replace kb := ((kb.below b7 (by omega)).set 10 (.slice yk.a yk.n yk.c))
  simp only [List.set_cons_zero, List.set_cons_succ] at kb
  replace kr := (kr.below b7 (by omega)).other (g' := w.heap.size) (i := 10) (v := .slice yk.a yk.n yk.c) (by omega)
  have K7 := (K6.trans (b7.mono (by omega))).setCell (p := ⟨w.heap.size, 10, none⟩) (Nat.le_refl _) (.slice yk.a yk.n yk.c)
  have m_k := n_k.set (p := ⟨w.heap.size, 10, none⟩) (v := .slice yk.a yk.n yk.c) (by show w.heap.size < w.heap.size + 2; omega)
  replace m_p := m_p.set (p := ⟨w.heap.size, 10, none⟩) (v := .slice yk.a yk.n yk.c) (by show w.heap.size < w.heap.size + 2; omega)
  replace m_t := m_t.set (p := ⟨w.heap.size, 10, none⟩) (v := .slice yk.a yk.n yk.c) (by show w.heap.size < w.heap.size + 2; omega)
  replace m_s := m_s.set (p := ⟨w.heap.size, 10, none⟩) (v := .slice yk.a yk.n yk.c) (by show w.heap.size < w.heap.size + 2; omega)
  replace m_r := m_r.set (p := ⟨w.heap.size, 10, none⟩) (v := .slice yk.a yk.n yk.c) (by show w.heap.size < w.heap.size + 2; omega)
  replace m_g := m_g.set (p := ⟨w.heap.size, 10, none⟩) (v := .slice yk.a yk.n yk.c) (by show w.heap.size < w.heap.size + 2; omega)
  replace m_e := m_e.set (p := ⟨w.heap.size, 10, none⟩) (v := .slice yk.a yk.n yk.c) (by show w.heap.size < w.heap.size + 2; omega)
  have hB7 : w.heap.size + 2 ≤ (v7.setCell ⟨w.heap.size, 10, none⟩ (.slice yk.a yk.n yk.c)).heap.size := by rw [size_set']; exact hB7'
  rw [q7]
  clear q7 hd' hyk n_k b7 D7 hB7' cs7 d
  obtain ⟨d, hd⟩ : ∃ d : Nat → Nat, d = d' := ⟨_, rfl⟩
  rw [← hd] at m_k m_p m_t m_s m_r m_g m_e
  clear hd d'
  obtain ⟨W7, e7⟩ : ∃ W, v7.setCell ⟨w.heap.size, 10, none⟩ (.slice yk.a yk.n yk.c) = W := ⟨_, rfl⟩
  rw [e7] at kb kr K7 hB7 m_p m_t m_s m_r m_g m_e m_k
  have E7 := hide e7
  clear e7
  go_upto_region 8 with fail
  rw [unhide E7]
  clear E7 c7 f7 K6 hB6
  have HC : Hid (CH W7 (w.heap.size + 2) d ⟨yp, yt, ys, yr, yg, ye, yk⟩ h) := ⟨m_p, m_t, m_s, m_r, m_g, m_e, m_k⟩
  have HK := hide K7
  have u0 := kb.cell 0
  have r0 := kr.cell 0
  have q0 := kr.free 0
  have u1 := kb.cell 1
  have r1 := kr.cell 1
  have q1 := kr.free 1
  have u2 := kb.cell 2
  have r2 := kr.cell 2
  have q2 := kr.free 2
  have u3 := kb.cell 3
  have r3 := kr.cell 3
  have q3 := kr.free 3
  have u4 := kb.cell 4
  have r4 := kr.cell 4
  have q4 := kr.free 4
  have u5 := kb.cell 5
  have r5 := kr.cell 5
  have q5 := kr.free 5
  have u6 := kb.cell 6
  have r6 := kr.cell 6
  have q6 := kr.free 6
  have u7 := kb.cell 7
  have r7 := kr.cell 7
  have q7 := kr.free 7
  have u8 := kb.cell 8
  have r8 := kr.cell 8
  have q8 := kr.free 8
  have u9 := kb.cell 9
  have r9 := kr.cell 9
  have q9 := kr.free 9
  have u10 := kb.cell 10
  have r10 := kr.cell 10
  have q10 := kr.free 10
  simp only [List.getElem?_cons_zero, List.getElem?_cons_succ] at u0 r0 u1 r1 u2 r2 u3 r3 u4 r4 u5 r5 u6 r6 u7 r7 u8 r8 u9 r9 u10 r10
  clear kb kr K7 hB7 m_p m_t m_s m_r m_g m_e m_k
  go_wp2_with fail
  refine bodyPost_ret (v := .agg #[.slice yp.a yp.n yp.c, .int .i64 h.n1, .int .i64 h.n2, .int .i64 h.n3, .slice yt.a yt.n yt.c, .int .i64 h.n5, .slice ys.a ys.n ys.c, .slice yr.a yr.n yr.c, .slice yg.a yg.n yg.c, .slice ye.a ye.n ye.c, .slice yk.a yk.n yk.c]) (by simp [results, Try.results22, go_sem, r0, r1, r2, r3, r4, r5, r6, r7, r8, r9, r10]) rfl ⟨⟨yp, yt, ys, yr, yg, ye, yk⟩, d, rfl, ?_, ?_⟩
  · repeat (refine CH.set ?_ (by show w.heap.size + 1 < w.heap.size + 2; omega))
    exact unhide HC
  · repeat (refine Below.setCell ?_ (by show w.heap.size ≤ w.heap.size + 1; omega) _)
    exact unhide HK

end Go.Proofs.Ytihkhjbbfpnndaa

/- What is proved here: what the program's HeaderFault answers, and what it calls: the fault of a header. -/
namespace Go.Proofs.Ytihkhjbbfpnndaa
open Go.RowKit
set_option linter.unusedVariables false
set_option maxRecDepth 100000

theorem isHash_any (a : Option Addr) (n cap : Nat) (w : World) : Calls Try.prog 21 #[.slice a n cap] w fun e w' => e = .returned (.bool (((n : Nat) : Int) == 32)) ∧ w' = w := by
  go_enter Try.func21, Try.ntmps21
  go_wp2_with fail
  go_ret
  exact ⟨rfl, rfl⟩

end Go.Proofs.Ytihkhjbbfpnndaa
