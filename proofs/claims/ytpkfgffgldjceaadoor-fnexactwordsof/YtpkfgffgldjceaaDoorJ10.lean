/- What is proved here: plain facts on rows of slices of bytes, and on what a vote makes of a snapshot; no program is named. -/
import Derived.Test.YtpkfgffgldjceaaDoorJ6
import Derived.Test.YtpkfgffgldjceaaDoorJ9
import Derived.Test.YtpkfgffgldjceaaDoorJ1
import Derived.Lib.ItoaNum
import Derived.Lib.Join
import Derived.Test.YtpkfgffgldjceaaDoorChecked
import Derived.Test.YtpkfgffgldjceaaDoorJ3
import Derived.WalkKit
import Derived.Deep.RegionWith
import Derived.Deep.RegionLaw
import Derived.Deep.RegionHeld3
import Derived.WalkLawsBesides
import Derived.WalkSmall
import Derived.WalkSpells
import Derived.KernelRfl
import Derived.BigQuiet
import Derived.Deep.QuietTactic
namespace Go.Proofs.YtpkfgffgldjceaaDoor
open Go.RowKit
set_option linter.unusedVariables false
set_option maxRecDepth 100000

/-- The slices of a row of bytes. -/
theorem RowOk.slices {w : World} {s : Sl} {zss : List (List Int)} (h : RowOk bytesK w s zss) :
    ∃ es : List Sl, es.length = zss.length ∧ (∀ b off, s.a = some ⟨b, off, none⟩ → ∀ i e, es[i]? = some e → w.cell? ⟨b, off + i, none⟩ = some e.v) ∧ ∀ (i : Nat) (e : Sl) (z : List Int), es[i]? = some e → zss[i]? = some z → BOk w e z := by
  have key : ∀ i : Nat, ∃ e : Sl, ∀ z, zss[i]? = some z → (∀ b off, s.a = some ⟨b, off, none⟩ → w.cell? ⟨b, off + i, none⟩ = some e.v) ∧ BOk w e z := fun i => by
    cases hz : zss[i]? with
    | none => exact ⟨⟨none, 0, 0⟩, fun z hz' => by cases hz'⟩
    | some z =>
      have hi := (List.getElem?_eq_some_iff.1 hz).1
      obtain ⟨b, off, ha, _, k⟩ := h.pos (by rw [h.len]; omega)
      obtain ⟨e, q, ho⟩ := k i z hz
      refine ⟨e, fun z' hz' => ?_⟩
      obtain rfl := Option.some.inj hz'
      refine ⟨fun b' off' ha' => ?_, ho⟩
      rw [ha] at ha'
      simp only [Option.some.injEq, Addr.mk.injEq, and_true] at ha'
      obtain ⟨rfl, rfl⟩ := ha'
      have q0 := q 0 _ rfl
      have e1 : bytesK.m = 1 := rfl
      rw [e1, Nat.mul_one, Nat.add_zero] at q0
      exact q0
  obtain ⟨f, hf⟩ := Classical.axiomOfChoice key
  refine ⟨(List.range zss.length).map f, by simp, fun b off ha i e he => ?_, fun i e z he hz => ?_⟩
  · rw [List.getElem?_map] at he
    have hi : i < zss.length := by
      rcases Nat.lt_or_ge i zss.length with h | h
      · exact h
      · rw [List.getElem?_eq_none (by simpa using h)] at he; cases he
    rw [List.getElem?_range hi] at he
    obtain rfl := Option.some.inj he
    exact (hf i _ (List.getElem?_eq_getElem hi)).1 b off ha
  · have hi := (List.getElem?_eq_some_iff.1 hz).1
    rw [List.getElem?_map, List.getElem?_range hi] at he
    obtain rfl := Option.some.inj he
    exact (hf i z hz).2

/-- A row of its own whose slices read. -/
theorem row_own {w : World} {B : Nat} {a : Option Addr} {n c : Nat} {es : List Sl} {zss : List (List Int)} {T : TypeId} (hl : es.length = zss.length) (ho : w.ownsRow B T 1 (.slice a n c) n (es.map Sl.v)) (hk : ∀ (i : Nat) (e : Sl) (z : List Int), es[i]? = some e → zss[i]? = some z → BOk w e z) : RowOk bytesK w ⟨a, n, c⟩ zss := by
  have h := OwnS.of ho
  have hn : n = es.length := by have := ho.1; simp at this; omega
  refine ⟨by show n = _; omega, h.room, h.max, h.nil, fun hp => ?_⟩
  obtain ⟨g, off, ha, hb, hs⟩ := h.pos hp
  refine ⟨g, off, ha, hs, fun i z hz => ?_⟩
  have hi := (List.getElem?_eq_some_iff.1 hz).1
  obtain ⟨e, he⟩ : ∃ e, es[i]? = some e := ⟨_, List.getElem?_eq_getElem (by omega)⟩
  refine ⟨e, fun j v hv => ?_, hk i e z he hz⟩
  have hj : j = 0 := by
    have h1 := (List.getElem?_eq_some_iff.1 hv).1
    rw [bytesK.len] at h1
    have h2 : bytesK.m = 1 := rfl
    omega
  subst hj
  have hv' : e.v = v := Option.some.inj hv
  have e1 : bytesK.m = 1 := rfl
  rw [e1, Nat.mul_one, Nat.add_zero, h.cell ha (by show i < n * 1; omega), List.getElem?_map, he, ← hv']
  rfl

theorem put_slices {es : List Sl} {zss : List (List Int)} {z : List Int} {e0 : Sl} {k : Nat} {w : World} (hl : es.length = zss.length) (hk : k ≤ zss.length) (he : ∀ (i : Nat) (e : Sl) (y : List Int), es[i]? = some e → zss[i]? = some y → BOk w e y) (h0 : BOk w e0 z) :
    (es.take k ++ [e0] ++ es.drop k).length = (zss.take k ++ [z] ++ zss.drop k).length ∧ ∀ (i : Nat) (e : Sl) (y : List Int), (es.take k ++ [e0] ++ es.drop k)[i]? = some e → (zss.take k ++ [z] ++ zss.drop k)[i]? = some y → BOk w e y := by
  refine ⟨by simp [hl], fun i e y h1 h2 => ?_⟩
  rw [List.append_assoc] at h1 h2
  rcases Nat.lt_trichotomy i k with hi | hi | hi
  · rw [List.getElem?_append_left (by rw [List.length_take]; omega), List.getElem?_take, if_pos hi] at h1 h2
    exact he i e y h1 h2
  · subst hi
    rw [List.getElem?_append_right (by rw [List.length_take]; omega)] at h1 h2
    rw [List.length_take, Nat.min_eq_left (by omega), Nat.sub_self] at h1
    rw [List.length_take, Nat.min_eq_left (by omega), Nat.sub_self] at h2
    obtain rfl := Option.some.inj h1
    obtain rfl := Option.some.inj h2
    exact h0
  · rw [List.getElem?_append_right (by rw [List.length_take]; omega)] at h1 h2
    rw [List.length_take, Nat.min_eq_left (by omega), show i - k = (i - k - 1) + 1 by omega] at h1
    rw [List.length_take, Nat.min_eq_left (by omega), show i - k = (i - k - 1) + 1 by omega] at h2
    simp only [List.singleton_append, List.getElem?_cons_succ, List.getElem?_drop] at h1 h2
    exact he _ e y h1 h2

/-- append onto a row of its own, of however many, as one step of a region that draws. -/
theorem step_append_own' {P : Program} (w : World) {ops : Array Oper} {o : Oper} {a : Act} {K : Act → World → Prop} {Q : Exit → Act → World → Prop} {E : Prop} (hgd : o.guard = none) (s x : Operand) (t : TypeId)
    (ho : o.op = .call { callee := .builtin .append, args := #[s, x], argTypes := #[t, t] })
    (base : Nat) (e : TypeId) (i : TypeInfo) (z : Value) (size bytes : Nat) (ht : P.underlying t = some (.slice e)) (hi : P.info? e = some i) (hz : i.zero = some z)
    (hsize : i.size = size) (hby : i.bytes = bytes) (hzs : z.cells.size = size) (hsz : 0 < size)
    (v : Value) (n : Nat) (xs : List Value) (hs : a.eval s = v) (hown : w.ownsRow base e size v n xs)
    (ad : Addr) (m c : Nat) (news : List Value) (hx : a.eval x = .slice (some ad) m c) (hl : news.length = m * size) (hnews : ∀ j u, news[j]? = some u → w.cell? (ad.add j) = some u) (h1 : ∀ u ∈ news, u.oneCell' = true)
    (h63 : n + m ≤ maxLen) (hbytes : (n + m) * bytes ≤ 140737488355328) (hbase : base ≤ w.heap.size)
    (h : ∀ v' w', w'.ownsRow base e size v' (n + m) (xs ++ news) → w.grownBy w' v.ownBlock → K (a.put o.dst v') w') :
    if Region.wanted o (yielded ops a.tmps) = true then Oper.wp P o a w K Q else E := by
  have hw : Region.wanted o (yielded ops a.tmps) = true := by simp [Region.wanted, hgd]
  rw [if_pos hw]
  exact wp_append_own w s x t ho base e i z size bytes ht hi hz hsize hby hzs hsz v n xs hs hown ad m c news hx hl hnews h1 h63 hbytes hbase (fun v' w' h2 h3 _ => h v' w' h2 h3)

theorem BOk.of_own {w : World} {B : Nat} {a : Option Addr} {n c : Nat} {z : List Int} (h : w.ownsRow B 5 1 (.slice a n c) n (z.map (Value.int .u8))) (hr : ∀ x ∈ z, 0 ≤ x ∧ x ≤ 255) : BOk w ⟨a, n, c⟩ z :=
  ⟨BRow.own2 h hr, (OwnS.of h).room, (OwnS.of h).max, (OwnS.of h).nil⟩

theorem own_val {w : World} {B : Nat} {T : TypeId} {m n : Nat} {v : Value} {xs : List Value} (h : w.ownsRow B T m v n xs) : ∃ a c, v = .slice a n c := by
  rcases h.2 with ⟨h', h0⟩ | ⟨g, cap, cur, h', _⟩
  · exact ⟨none, 0, by rw [h', h0]⟩
  · exact ⟨_, _, h'⟩

/-- A row to which a part of the old one, a new slice and the rest were appended. -/
theorem put_done {w w5 W1 WA W2 W3 : World} {v5 : Value} {a1 : Option Addr} {c1 tn g2 k : Nat} {es : List Sl} {zss : List (List Int)} {z : List Int} {T : TypeId} {vs5 : List Value}
    (hb5 : Below w.heap.size w w5) (h5 : w5.ownsRow w.heap.size T 1 v5 k vs5) (b1 : Below w5.heap.size w5 W1) (o1 : W1.ownsRow w5.heap.size 5 1 (.slice a1 tn c1) tn (z.map (Value.int .u8))) (hr : ∀ x ∈ z, 0 ≤ x ∧ x ≤ 255)
    (bA : Below W1.heap.size W1 WA) (g : WA.grownBy W2 v5.ownBlock) (hat : v5.ownBlock = some g2 ∨ g2 = WA.heap.size) :
    Below w.heap.size w W2 ∧ (∀ n6 v6, W3.ownsRow w.heap.size T 1 v6 n6 ((es.take k ++ [(⟨a1, tn, c1⟩ : Sl)] ++ es.drop k).map Sl.v) → W2.grownBy W3 (some g2) → es.length = zss.length → k ≤ zss.length →
      ∃ s' : Sl, v6 = .slice s'.a s'.n s'.c ∧ (∀ W : World, (∀ g, w.heap.size ≤ g → g < W3.heap.size → W.heap[g]? = W3.heap[g]?) → (∀ (i : Nat) (e : Sl) (y : List Int), es[i]? = some e → zss[i]? = some y → BOk W e y) → RowOk bytesK W s' (zss.take k ++ [z] ++ zss.drop k)) ∧ Below w.heap.size w W3) := by
  have hs5 := hb5.size
  have hs1 := b1.size
  have hsA := bA.size
  have hob : ∀ q, v5.ownBlock = some q → w.heap.size ≤ q ∧ q < w5.heap.size := fun q e => h5.lt q e
  have bwA : Below w.heap.size w WA := (hb5.trans (b1.mono hs5)).trans (bA.mono (by omega))
  have bw2 : Below w.heap.size w W2 := bwA.grown g (by omega) (fun q e => (hob q e).1)
  refine ⟨bw2, fun n6 v6 hown3 g3 el hk => ?_⟩
  have hg2 : w.heap.size ≤ g2 := by
    rcases hat with h | h
    · exact (hob g2 h).1
    · omega
  have bw3 : Below w.heap.size w W3 := bw2.grown g3 bw2.size (fun q e => by obtain rfl := Option.some.inj e; exact hg2)
  obtain ⟨a6, c6, rfl⟩ := own_val hown3
  have o3 : W3.ownsRow w5.heap.size 5 1 (.slice a1 tn c1) tn (z.map (Value.int .u8)) := own_frame o1 (fun x hx => by
    have hx1 := o1.lt x.block (by rw [hx]; rfl)
    rw [g3.block x.block (by have := g.size; omega) (fun e => by
      have e' : g2 = x.block := Option.some.inj e.symm
      rcases hat with h | h
      · have := (hob g2 h).2; omega
      · omega)]
    rw [g.block x.block (by omega) (fun e => by have := (hob _ e.symm).2; omega)]
    exact bA.block x.block hx1.2)
  refine ⟨⟨a6, n6, c6⟩, rfl, fun W hW eo => ?_, bw3⟩
  have own : W.ownsRow w.heap.size T 1 (.slice a6 n6 c6) n6 ((es.take k ++ [(⟨a1, tn, c1⟩ : Sl)] ++ es.drop k).map Sl.v) := own_frame hown3 (fun x hx => by have := hown3.lt x.block (by rw [hx]; rfl); exact hW _ this.1 this.2)
  have oW : W.ownsRow w5.heap.size 5 1 (.slice a1 tn c1) tn (z.map (Value.int .u8)) := own_frame o3 (fun x hx => by have := o3.lt x.block (by rw [hx]; rfl); exact hW _ (by omega) this.2)
  obtain ⟨p1, p2⟩ := put_slices el hk eo (BOk.of_own oW hr)
  exact row_own p1 own p2

/-- The end of a row. -/
theorem RowOk.tail {α β : Type} {K : Kd α β} {w : World} {b off n c : Nat} {xs : List α} (h : RowOk K w ⟨some ⟨b, off, none⟩, n, c⟩ xs) (q o' : Nat) (hq : q ≤ n) (ho : ¬ c = q → o' = off + q * K.m) : RowOk K w ⟨some ⟨b, o', none⟩, n - q, c - q⟩ (xs.drop q) := by
  have hl : n = xs.length := h.len
  have hr : n ≤ c := h.room
  have hm : c ≤ maxLen := h.max
  refine ⟨by show n - q = _; rw [List.length_drop, hl], (by show n - q ≤ c - q; omega), (by show c - q ≤ maxLen; omega), (fun e => by cases e), fun hp => ?_⟩
  have hp' : 0 < n - q := hp
  obtain ⟨b', off', ha, hb, k⟩ := h.pos (by show 0 < n; omega)
  simp only [Option.some.injEq, Addr.mk.injEq, and_true] at ha
  obtain ⟨rfl, rfl⟩ := ha
  refine ⟨b, o', rfl, hb, fun i x hx => ?_⟩
  rw [List.getElem?_drop] at hx
  obtain ⟨e, q1, q2⟩ := k (q + i) x hx
  refine ⟨e, fun j v hv => ?_, q2⟩
  have := q1 j v hv
  rw [ho (by omega), show off + q * K.m + i * K.m + j = off + (q + i) * K.m + j by rw [Nat.add_mul]; omega]
  exact this

theorem out_slices {es : List Sl} {zss : List (List Int)} {k : Nat} {w : World} (hl : es.length = zss.length) (he : ∀ (i : Nat) (e : Sl) (y : List Int), es[i]? = some e → zss[i]? = some y → BOk w e y) :
    (es.take k ++ es.drop (k + 1)).length = (zss.take k ++ zss.drop (k + 1)).length ∧ ∀ (i : Nat) (e : Sl) (y : List Int), (es.take k ++ es.drop (k + 1))[i]? = some e → (zss.take k ++ zss.drop (k + 1))[i]? = some y → BOk w e y := by
  refine ⟨by simp [hl], fun i e y h1 h2 => ?_⟩
  by_cases hi : i < (es.take k).length
  · have hi2 : i < (zss.take k).length := by rw [List.length_take] at hi ⊢; omega
    have hik : i < k := by rw [List.length_take] at hi; omega
    rw [List.getElem?_append_left hi, List.getElem?_take, if_pos hik] at h1
    rw [List.getElem?_append_left hi2, List.getElem?_take, if_pos hik] at h2
    exact he i e y h1 h2
  · have hi2 : ¬ i < (zss.take k).length := by rw [List.length_take] at hi ⊢; omega
    rw [List.getElem?_append_right (by omega), List.getElem?_drop] at h1
    rw [List.getElem?_append_right (by omega), List.getElem?_drop] at h2
    have e1 : (es.take k).length = (zss.take k).length := by rw [List.length_take, List.length_take, hl]
    rw [e1] at h1
    exact he _ e y h1 h2

/-- A row of votes to which one more was appended: it reads wherever its blocks stand. -/
theorem cast_row {w5 W6 W1 W1' WA W2 : World} {B gs : Nat} {d : Nat → Path} {v5 : Sl} {fv : List Vt} {za zb : List Int} {add : Bool} {a1 a2 : Option Addr} {n1 c1 n2 c2 g2 cap2 : Nat} {T : TypeId} {es : List VtS}
    (hB : B ≤ w5.heap.size) (hgs : gs = w5.heap.size) (b56 : Below w5.heap.size w5 W6) (hg6 : gs < W6.heap.size)
    (hlen : v5.n = fv.length) (e2 : es.length = fv.length) (hcol : ∀ x, v5.a = some x → d x.block = []) (hblk : ∀ x, v5.a = some x → B ≤ x.block ∧ x.block < w5.heap.size) (e5 : ∀ i e x, es[i]? = some e → fv[i]? = some x → vtK.Own w5 B d ([] ++ [i]) e x)
    (b1 : Below W6.heap.size W6 W1) (o1 : W1.ownsRow W6.heap.size 5 1 (.slice a1 n1 c1) n1 (za.map (Value.int .u8))) (ra : ∀ x ∈ za, 0 ≤ x ∧ x ≤ 255)
    (b2 : Below W1.heap.size W1 W1') (o2 : W1'.ownsRow W1.heap.size 5 1 (.slice a2 n2 c2) n2 (zb.map (Value.int .u8))) (rb : ∀ x ∈ zb, 0 ≤ x ∧ x ≤ 255) (bA : Below W1'.heap.size W1' WA)
    (hown : W2.ownsRow B T 3 (.slice (some ⟨g2, 0, none⟩) (v5.n + 1) cap2) (v5.n + 1) (flatV vtK es fv ++ [.slice a1 n1 c1, .slice a2 n2 c2, .bool add]))
    (hg : WA.grownBy W2 (Value.slice v5.a v5.n v5.c).ownBlock) (hat : (Value.slice v5.a v5.n v5.c).ownBlock = some g2 ∨ g2 = WA.heap.size) :
    (∀ g, g < w5.heap.size → (∀ x, v5.a = some x → ¬ g = x.block) → W2.heap[g]? = w5.heap[g]?) ∧ (∀ g, g < W6.heap.size → B ≤ g → (∀ x, v5.a = some x → ¬ g = x.block) → W2.heap[g]? = W6.heap[g]?) ∧ ∀ W : World, (∀ g, B ≤ g → g < W2.heap.size → ¬ g = gs → W.heap[g]? = W2.heap[g]?) → RowOk vtK W ⟨some ⟨g2, 0, none⟩, v5.n + 1, cap2⟩ (fv ++ [(za, zb, add)]) := by
  have s56 := b56.size
  have s1 := b1.size
  have s2 := b2.size
  have sA := bA.size
  have sg := hg.size
  have hob : ∀ g, (Value.slice v5.a v5.n v5.c).ownBlock = some g → ∃ x, v5.a = some x ∧ x.block = g := fun g hg' => by
    cases ha : v5.a with
    | none => rw [ha] at hg'; cases hg'
    | some y => rw [ha] at hg'; exact ⟨y, rfl, Option.some.inj hg'⟩
  have kA : ∀ g, g < W6.heap.size → WA.heap[g]? = W6.heap[g]? := fun g h => by rw [bA.block g (by omega), b2.block g (by omega), b1.block g h]
  have k6 : ∀ g, g < W6.heap.size → (∀ x, v5.a = some x → ¬ g = x.block) → W2.heap[g]? = W6.heap[g]? := fun g h hn => by
    rw [hg.block g (by omega) (fun e => by obtain ⟨x, hx, e'⟩ := hob g e.symm; exact hn x hx e'.symm)]
    exact kA g h
  have k5 : ∀ g, g < w5.heap.size → (∀ x, v5.a = some x → ¬ g = x.block) → W2.heap[g]? = w5.heap[g]? := fun g h hn => (k6 g (by omega) hn).trans (b56.block g h)
  refine ⟨k5, fun g h _ hn => k6 g h hn, fun W hW => ?_⟩
  have hgB : B ≤ g2 ∧ g2 < W2.heap.size := hown.lt g2 rfl
  have hg2 : ¬ g2 = gs := by
    rcases hat with h | h
    · obtain ⟨x, hx, e⟩ := hob g2 h
      have := (hblk x hx).2
      omega
    · omega
  have far : ∀ g, W6.heap.size ≤ g → g < WA.heap.size → W.heap[g]? = WA.heap[g]? := fun g h1 h2 => by
    rw [hW g (by omega) (by omega) (by omega)]
    exact hg.block g h2 (fun e => by obtain ⟨x, hx, e'⟩ := hob g e.symm; have := (hblk x hx).2; omega)
  have ow1 : W.ownsRow W6.heap.size 5 1 (.slice a1 n1 c1) n1 (za.map (Value.int .u8)) := own_frame o1 (fun x hx => by
    have := o1.lt x.block (by rw [hx]; rfl)
    rw [far x.block this.1 (by omega), bA.block x.block (by omega), b2.block x.block this.2])
  have ow2 : W.ownsRow W1.heap.size 5 1 (.slice a2 n2 c2) n2 (zb.map (Value.int .u8)) := own_frame o2 (fun x hx => by
    have := o2.lt x.block (by rw [hx]; rfl)
    rw [far x.block (by omega) (by omega), bA.block x.block this.2])
  have h := OwnS.of hown
  have hfl := flatV_snoc vtK es fv ((⟨a1, n1, c1⟩, ⟨a2, n2, c2⟩, ()) : VtS) (za, zb, add) e2
  refine ⟨by simp [hlen], h.room, h.max, (fun e => by cases e), fun _ => ⟨g2, 0, rfl, ?_, fun i x hx => ?_⟩⟩
  · have hbk : W.heap[g2]? = W2.heap[g2]? := hW g2 hgB.1 hgB.2 hg2
    rcases Nat.lt_or_ge g2 W.heap.size with h' | h'
    · exact h'
    · rw [Array.getElem?_eq_none h', Array.getElem?_eq_getElem hgB.2] at hbk
      cases hbk
  · have hi := (List.getElem?_eq_some_iff.1 hx).1
    simp at hi
    obtain ⟨e, he⟩ : ∃ e, (es ++ [((⟨a1, n1, c1⟩, ⟨a2, n2, c2⟩, ()) : VtS)])[i]? = some e := ⟨_, List.getElem?_eq_getElem (by simp; omega)⟩
    refine ⟨e, fun j v hv => ?_, ?_⟩
    · have hj : j < vtK.m := by have := (List.getElem?_eq_some_iff.1 hv).1; rw [vtK.len] at this; exact this
      have q := flatV_at vtK _ _ i j e x v he hx hv
      rw [hfl] at q
      have hm : vtK.m = 3 := rfl
      rw [World.cell?_of_block (w := W2) (a := ⟨g2, 0 + i * vtK.m + j, none⟩) (hW g2 hgB.1 hgB.2 hg2), Nat.add_assoc, h.cell rfl (by show i * vtK.m + j < (v5.n + 1) * 3; have := row_index (m := 3) (i := i) (j := j) (n := v5.n + 1) (by omega) (by omega); rw [hm]; exact this)]
      exact q
    · by_cases hik : i < fv.length
      · rw [List.getElem?_append_left (by omega)] at he
        rw [List.getElem?_append_left hik] at hx
        exact vtK.ok (vtK.frame (e5 i e x he hx) (fun g h1 h2 h3 => by
          have hn : ∀ y, v5.a = some y → ¬ g = y.block := fun y hy e' => by
            rw [e', hcol y hy] at h3
            have := h3.length_le
            simp at this
          rw [hW g h2 (by omega) (by omega)]
          exact k5 g h1 hn))
      · obtain rfl : i = fv.length := by omega
        rw [← e2, List.getElem?_concat_length] at he
        rw [List.getElem?_concat_length] at hx
        obtain rfl := Option.some.inj he
        obtain rfl := Option.some.inj hx
        exact ⟨BOk.of_own ow1 ra, BOk.of_own ow2 rb, trivial⟩

/-- An address put among addresses. -/
def putL (zss : List (List Int)) (z : List Int) : List (List Int) := zss.take (plB zss z) ++ [z] ++ zss.drop (plB zss z)
/-- A list without the one at a place. -/
def outL {α : Type} (xs : List α) (k : Nat) : List α := xs.take k ++ xs.drop (k + 1)

theorem putL_length (zss : List (List Int)) (z : List Int) : (putL zss z).length = zss.length + 1 := by
  have := plB_le zss z
  unfold putL
  rw [List.length_append, List.length_append, List.length_take, List.length_drop]
  simp
  omega

/-- What comes of a snapshot in which more than half want something. -/
def wonIn (x : Sn) (t : List Int) : Sn := (x.1, putL x.2.1 t, x.2.2.1, (lessSn x [] t).2.2.2)
def keepLast {α : Type} (xs : List α) (h : Nat) : List α := if h < xs.length then xs.drop (xs.length - h) else xs
def wonOut (x : Sn) (t : List Int) : Sn := (x.1, outL x.2.1 (atFrom t 0 x.2.1).toNat, keepLast x.2.2.1 ((outL x.2.1 (atFrom t 0 x.2.1).toNat).length / 2), (lessSn (lessSn x [] t) t []).2.2.2)
def wonCode (x : Sn) (add : Bool) : Int := if add = true ∧ 7 ≤ x.2.1.length then 10 else 0
def wonSn (x : Sn) (t : List Int) (add : Bool) : Sn := if add = true then (if 7 ≤ x.2.1.length then x else wonIn x t) else if x.2.1.length = 1 then x else wonOut x t

/-- What a vote makes of a snapshot. -/
def withVt (x : Sn) (s t : List Int) (add : Bool) : Sn := (x.1, x.2.1, x.2.2.1, (lessSn x s t).2.2.2 ++ [(s, t, add)])
def ctCode (x : Sn) (s t : List Int) (add : Bool) : Int :=
  if add = decide (t ∈ x.2.1) then 0 else if 30 ≤ (lessSn x s t).2.2.2.length then 2
  else if 2 * tlOf t (vtKeys (withVt x s t add).2.2.2) ≤ x.2.1.length then 0 else wonCode (withVt x s t add) add
def ctSn (x : Sn) (s t : List Int) (add : Bool) : Sn :=
  if add = decide (t ∈ x.2.1) then lessSn x s t else if 30 ≤ (lessSn x s t).2.2.2.length then x
  else if 2 * tlOf t (vtKeys (withVt x s t add).2.2.2) ≤ x.2.1.length then withVt x s t add else wonSn (withVt x s t add) t add

end Go.Proofs.YtpkfgffgldjceaaDoor

/- What is proved here: plain facts on snapshots without a fault: what a vote makes of one has none; no program is named. -/
namespace Go.Proofs.YtpkfgffgldjceaaDoor
open Go.RowKit
set_option linter.unusedVariables false
set_option maxRecDepth 100000

/-- A vote on its own. -/
def VtOk (sg : List (List Int)) (v : Vt) : Prop := v.1.length = 4 ∧ v.2.1.length = 4 ∧ v.1 ∈ sg ∧ v.2.2 ≠ decide (v.2.1 ∈ sg)

theorem vtOne_ok {sg : List (List Int)} {seen : List (List Int × List Int)} {v : Vt} (h : VtOk sg v) (hn : (v.1, v.2.1) ∉ seen) : vtOne sg seen v = 0 := by
  obtain ⟨h1, h2, h3, h4⟩ := h
  unfold vtOne
  rw [if_neg (by simp [h1, h2]), if_neg (by simp [h3]), if_neg (by simpa using h4), if_neg (by simp [hn])]

theorem vtFrom_ok {sg : List (List Int)} {vs : List Vt} (h : ∀ v ∈ vs, VtOk sg v) (hn : (vtKeys vs).Nodup) : ∀ (n k : Nat), n = vs.length - k → k ≤ vs.length → vtFrom sg vs k (vs.drop k) = 0 := by
  intro n
  induction n with
  | zero => intro k hk hl; rw [List.drop_eq_nil_of_le (by omega)]; rfl
  | succ n ih =>
    intro k hk hl
    obtain ⟨v, hv⟩ : ∃ v, vs[k]? = some v := ⟨_, List.getElem?_eq_getElem (by omega)⟩
    rw [vtFrom_step sg vs k v hv, if_pos]
    · exact ih (k + 1) (by omega) (by omega)
    · refine vtOne_ok (h v (List.mem_of_getElem? hv)) (fun hm => ?_)
      have e : vtKeys vs = vtKeys (vs.take (k + 1)) ++ vtKeys (vs.drop (k + 1)) := by unfold vtKeys; rw [← List.map_append, List.take_append_drop]
      rw [e, vtKeys_snoc vs k v hv] at hn
      have hn' := (List.nodup_append.1 hn).1
      exact (List.nodup_append.1 hn').2.2 _ hm _ (by simp) rfl

theorem vt_iff {sg : List (List Int)} {vs : List Vt} : vtFrom sg vs 0 vs = 0 ↔ (∀ v ∈ vs, VtOk sg v) ∧ (vtKeys vs).Nodup := by
  constructor
  · intro h
    refine ⟨fun v hv => ?_, vtKeys_nodup h⟩
    obtain ⟨k, hk⟩ := List.getElem?_of_mem hv
    have h1 := vtOne_zero (vtOne_all h k v hk)
    exact ⟨h1.1, h1.2.1, h1.2.2.1, h1.2.2.2.1⟩
  · rintro ⟨h, hn⟩
    have := vtFrom_ok h hn _ 0 rfl (Nat.zero_le _)
    simpa using this

theorem sg_iff {zss : List (List Int)} : sgFlt zss = 0 ↔ zss.length ≤ 7 ∧ (∀ z ∈ zss, z.length = 4) ∧ zss.Pairwise (fun x y => aheadB x y = true) := by
  constructor
  · intro h
    obtain ⟨h1, h2, h3⟩ := sg_rise h
    refine ⟨h1, h2, List.pairwise_iff_getElem.2 (fun i j hi hj hij => h3 i j _ _ hij (List.getElem?_eq_getElem hi) (List.getElem?_eq_getElem hj))⟩
  · rintro ⟨h1, h2, h3⟩
    unfold sgFlt
    rw [if_neg (by omega)]
    have key : ∀ (n k : Nat), n = zss.length - k → k ≤ zss.length → sgFrom zss k (zss.drop k) = 0 := by
      intro n
      induction n with
      | zero => intro k hk hl; exact sgFrom_end zss k (by omega)
      | succ n ih =>
        intro k hk hl
        obtain ⟨z, hz⟩ : ∃ z, zss[k]? = some z := ⟨_, List.getElem?_eq_getElem (by omega)⟩
        rw [sgFrom_step zss k z hz, if_neg]
        · exact ih (k + 1) (by omega) (by omega)
        · unfold sgBad
          have hz4 := h2 z (List.mem_of_getElem? hz)
          rcases Nat.eq_zero_or_pos k with h0 | hp
          · subst h0
            simp [hz4]
          · have hkl : k < zss.length := (List.getElem?_eq_some_iff.1 hz).1
            have ea : aheadB (zss.getD (k - 1) []) z = true := by
              rw [List.getD_eq_getElem?_getD, List.getElem?_eq_getElem (by omega : k - 1 < zss.length)]
              have e2 : zss[k] = z := (List.getElem?_eq_some_iff.1 hz).2
              rw [← e2]
              exact List.pairwise_iff_getElem.1 h3 (k - 1) k (by omega) hkl (by omega)
            rw [ea, hz4]
            simp
    have := key _ 0 rfl (Nat.zero_le _)
    simpa using this

theorem rc_iff {last : Int} : ∀ {rs : List Rc} {least : Int}, rcFrom last least rs = 0 ↔ (∀ r ∈ rs, r.2.length = 4 ∧ least ≤ r.1 ∧ r.1 ≤ last) ∧ rs.Pairwise (fun a b => a.1 < b.1)
  | [], least => by simp [rcFrom]
  | r :: t, least => by
    unfold rcFrom
    have ih := rc_iff (last := last) (rs := t) (least := r.1 + 1)
    have ho : rcOne last least r = 0 ↔ r.2.length = 4 ∧ least ≤ r.1 ∧ r.1 ≤ last := by
      unfold rcOne within
      constructor
      · intro h
        split at h
        · omega
        · rename_i h1
          split at h
          · omega
          · rename_i h2
            simp at h1 h2
            exact ⟨h1, h2⟩
      · rintro ⟨h1, h2⟩
        rw [if_neg (by simp [h1]), if_neg (by simp [h2])]
    constructor
    · intro h
      split at h
      · rename_i h1
        obtain ⟨a1, a2⟩ := ih.1 h
        have h1' := ho.1 h1
        refine ⟨fun q hq => ?_, List.pairwise_cons.2 ⟨fun q hq => ?_, a2⟩⟩
        · rcases List.mem_cons.1 hq with e | e
          · subst e; exact h1'
          · have := a1 q e; exact ⟨this.1, by omega, this.2.2⟩
        · have := a1 q hq; omega
      · rename_i h1
        exact absurd h h1
    · rintro ⟨h1, h2⟩
      obtain ⟨p1, p2⟩ := List.pairwise_cons.1 h2
      rw [if_pos (ho.2 (h1 r (by simp)))]
      exact ih.2 ⟨fun q hq => ⟨(h1 q (by simp [hq])).1, by have := p1 q hq; omega, (h1 q (by simp [hq])).2.2⟩, p2⟩

/-- A snapshot without a fault. -/
theorem sn_iff {x : Sn} : snFlt x = 0 ↔ within x.1 0 1099511627776 = true ∧ 0 < x.2.1.length ∧ (x.2.1.length ≤ 7 ∧ (∀ z ∈ x.2.1, z.length = 4) ∧ x.2.1.Pairwise (fun a b => aheadB a b = true)) ∧ x.2.2.1.length ≤ 7 ∧ x.2.2.2.length ≤ 30 ∧ ((∀ r ∈ x.2.2.1, r.2.length = 4 ∧ 0 ≤ r.1 ∧ r.1 ≤ x.1) ∧ x.2.2.1.Pairwise (fun a b => a.1 < b.1)) ∧ (∀ v ∈ x.2.2.2, VtOk x.2.1 v) ∧ (vtKeys x.2.2.2).Nodup := by
  rw [← sg_iff, ← rc_iff, ← vt_iff]
  have hs : sgSome x.2.1 = 0 ↔ 0 < x.2.1.length ∧ sgFlt x.2.1 = 0 := by
    unfold sgSome
    constructor
    · intro h
      split at h
      · omega
      · exact ⟨by omega, h⟩
    · rintro ⟨h1, h2⟩
      rw [if_neg (by omega)]
      exact h2
  unfold snFlt
  constructor
  · intro h
    split at h
    · omega
    · rename_i h1
      split at h
      · rename_i h2; exact absurd h h2
      · rename_i h2
        split at h
        · omega
        · rename_i h3
          split at h
          · rename_i h4; exact absurd h h4
          · rename_i h4
            obtain ⟨p1, p2⟩ := hs.1 (Decidable.of_not_not h2)
            exact ⟨by simpa using h1, p1, p2, by omega, by omega, Decidable.of_not_not h4, h⟩
  · rintro ⟨h1, h2, h3, h4, h5, h6, h7⟩
    rw [if_neg (by simp [h1]), if_neg (by simp [hs.2 ⟨h2, h3⟩]), if_neg (by omega), if_neg (by simp [h6])]
    exact h7

end Go.Proofs.YtpkfgffgldjceaaDoor

/- What is proved here: plain facts on writing bytes as hexadecimal texts; no program is named. -/
namespace Go.Proofs.YtpkfgffgldjceaaDoor
set_option linter.unusedVariables false
set_option maxRecDepth 100000

/-- The sign of a digit. -/
def hd (v : Int) : Int := if v < 10 then 48 + v else 87 + v

/-- The signs of bytes. -/
def hexEnc : List Int → List Int
  | [] => []
  | x :: r => hd (x / 16) :: hd (x % 16) :: hexEnc r

theorem hexEnc_append : ∀ (a b : List Int), hexEnc (a ++ b) = hexEnc a ++ hexEnc b
  | [], b => rfl
  | x :: a, b => by simp [hexEnc, hexEnc_append a b]

theorem hexEnc_length : ∀ (a : List Int), (hexEnc a).length = 2 * a.length
  | [] => rfl
  | x :: a => by simp [hexEnc, hexEnc_length a]; omega

theorem hexEnc_snoc (xs : List Int) (k : Nat) (h : k < xs.length) : hexEnc (xs.take (k + 1)) = hexEnc (xs.take k) ++ [hd (xs.getD k 0 / 16), hd (xs.getD k 0 % 16)] := by
  rw [List.take_succ_eq_append_getElem h, hexEnc_append, getD_at xs k h]
  rfl

theorem hd_range (v : Int) (h0 : 0 ≤ v) (h1 : v < 16) : 0 ≤ hd v ∧ hd v ≤ 255 := by unfold hd; split <;> omega

theorem hexEnc_range : ∀ (a : List Int), (∀ x ∈ a, 0 ≤ x ∧ x ≤ 255) → ∀ y ∈ hexEnc a, 0 ≤ y ∧ y ≤ 255
  | [], _, y, hy => by simp [hexEnc] at hy
  | x :: a, h, y, hy => by
    have hx := h x (List.mem_cons_self ..)
    rcases List.mem_cons.1 hy with rfl | hy
    · exact hd_range _ (by omega) (by omega)
    · rcases List.mem_cons.1 hy with rfl | hy
      · exact hd_range _ (by omega) (by omega)
      · exact hexEnc_range a (fun z hz => h z (List.mem_cons_of_mem _ hz)) y hy

/-- The sixteen digits. -/
def digs : ByteArray := ⟨#[48, 49, 50, 51, 52, 53, 54, 55, 56, 57, 97, 98, 99, 100, 101, 102]⟩

theorem digs_at : ∀ v : Fin 16, (digs[v.val]'(by have := v.isLt; exact this)).toNat = (hd (v.val : Int)).toNat := by decide

theorem digs_slice : ∀ v : Fin 16, (digs.extract v.val (v.val + 1)).data.toList = [UInt8.ofNat (hd (v.val : Int)).toNat] := by decide

theorem str_snoc (L : List Int) (v : Int) (h0 : 0 ≤ v) (h1 : v < 16) : strOfNums L ++ digs.extract v.toNat (v.toNat + 1) = strOfNums (L ++ [hd v]) := by
  obtain ⟨n, rfl⟩ := Int.eq_ofNat_of_zero_le h0
  have h := digs_slice ⟨n, by omega⟩
  simp only at h
  apply ByteArray.ext
  rw [ByteArray.data_append, Int.toNat_natCast]
  apply Array.ext'
  rw [Array.toList_append, h]
  simp [strOfNums]

end Go.Proofs.YtpkfgffgldjceaaDoor

/- What is proved here: nothing of the program: the words that a snapshot is told by, and how they are joined. -/
namespace Go.Proofs.YtpkfgffgldjceaaDoor
open Go.RowKit
set_option linter.unusedVariables false
set_option maxRecDepth 100000

def spW : ByteArray := ⟨#[32]⟩
def dgW (n : Int) : ByteArray := ⟨(Lib.decDigits n.toNat).toArray⟩
def hxW (z : List Int) : ByteArray := strOfNums (hexEnc z)
def plW : ByteArray := ⟨#[43]⟩
def miW : ByteArray := ⟨#[45]⟩
def sgW (b : Bool) : ByteArray := if b = true then plW else miW
def wSnap : ByteArray := ⟨#[115, 110, 97, 112]⟩
def wOf : ByteArray := ⟨#[111, 102]⟩
def wRec : ByteArray := ⟨#[114, 101, 99, 101, 110, 116, 115]⟩
def wVot : ByteArray := ⟨#[118, 111, 116, 101, 115]⟩
def rcW (r : Rc) : List ByteArray := [dgW r.1, hxW r.2]
def vtW (v : Vt) : List ByteArray := [hxW v.1, sgW v.2.2 ++ hxW v.2.1]
def snW1 (x : Sn) : List ByteArray := [wSnap, dgW x.1, wOf]
def snW2 (x : Sn) : List ByteArray := snW1 x ++ x.2.1.map hxW
def snW3 (x : Sn) : List ByteArray := snW2 x ++ [wRec]
def snW4 (x : Sn) : List ByteArray := snW3 x ++ x.2.2.1.flatMap rcW
def snW5 (x : Sn) : List ByteArray := snW4 x ++ [wVot]
def snW (x : Sn) : List ByteArray := snW5 x ++ x.2.2.2.flatMap vtW
/-- Words with one blank between. -/
def jn : List ByteArray → ByteArray
  | [] => ⟨#[]⟩
  | w :: ws => ws.foldl (fun a b => a ++ spW ++ b) w
/-- What SnapText answers. -/
def stTxt (x : Sn) : ByteArray := if snFlt x = 0 then jn (snW x) else ⟨#[]⟩

theorem jn_snoc (ws : List ByteArray) (h : ws ≠ []) (b : ByteArray) : jn (ws ++ [b]) = jn ws ++ spW ++ b := by
  cases ws with
  | nil => exact absurd rfl h
  | cons w t =>
    show (t ++ [b]).foldl _ w = _
    rw [List.foldl_append]
    rfl

theorem jn_tail : ∀ (t : List ByteArray) (a : ByteArray), (⟨(a.data.toList ++ Lib.joinTail spW.data.toList (t.map (·.data.toList))).toArray⟩ : ByteArray) = t.foldl (fun a b => a ++ spW ++ b) a
  | [], a => by
    apply ByteArray.ext
    simp [Lib.joinTail]
  | b :: t, a => by
    rw [List.foldl_cons, ← jn_tail t (a ++ spW ++ b)]
    apply ByteArray.ext
    simp [Lib.joinTail]

theorem jn_join (ws : List ByteArray) : (⟨(Lib.join (ws.map (·.data.toList)) spW.data.toList).toArray⟩ : ByteArray) = jn ws := by
  cases ws with
  | nil => rfl
  | cons w t =>
    rw [List.map_cons, Lib.join_cons]
    exact jn_tail t w

theorem join_len (ws : List ByteArray) (K : Nat) (h : ∀ w ∈ ws, w.size ≤ K) : (Lib.join (ws.map (·.data.toList)) spW.data.toList).length ≤ ws.length * (K + 1) := by
  have hl : ∀ t : List ByteArray, (∀ w ∈ t, w.size ≤ K) → Lib.lens (t.map (·.data.toList)) ≤ t.length * K := by
    intro t
    induction t with
    | nil => intro _; simp [Lib.lens]
    | cons b t ih =>
      intro hb
      have h1 := hb b (List.mem_cons_self ..)
      have h2 := ih (fun w hw => hb w (List.mem_cons_of_mem _ hw))
      have h3 : b.data.toList.length = b.size := Array.length_toList
      have h4 : Lib.lens ((b :: t).map (·.data.toList)) = b.data.toList.length + Lib.lens (t.map (·.data.toList)) := rfl
      rw [h4, h3, List.length_cons, Nat.succ_mul]
      omega
  cases ws with
  | nil => simp [Lib.join, List.intercalate]
  | cons w t =>
    rw [List.map_cons, Lib.join_cons, List.length_append, Lib.joinTail_length]
    have h1 := h w (List.mem_cons_self ..)
    have h2 := hl t (fun v hv => h v (List.mem_cons_of_mem _ hv))
    have h3 : w.data.toList.length = w.size := Array.length_toList
    have h4 : spW.data.toList.length = 1 := rfl
    have h5 : (t.map (·.data.toList)).length = t.length := by simp
    have h6 : (t.length + 1) * (K + 1) = t.length * K + K + t.length + 1 := by rw [Nat.add_mul, Nat.mul_add]; omega
    rw [h3, h4, h5, List.length_cons, h6]
    omega

theorem dec_lenW : ∀ m : Nat, (Lib.decDigits m).length ≤ m + 1 := by
  intro m
  induction m using Nat.strongRecOn with
  | ind m ihm =>
    rw [Lib.decDigits]
    split
    · simp
    · have := ihm (m / 10) (by omega)
      simp; omega

theorem dgW_size (n : Int) (h0 : 0 ≤ n) (h1 : n ≤ 1099511627776) : (dgW n).size ≤ 1099511627777 := by
  have := dec_lenW n.toNat
  show (Lib.decDigits n.toNat).toArray.size ≤ 1099511627777
  simp; omega

theorem hxW_size (z : List Int) : (hxW z).size = 2 * z.length := by
  unfold hxW
  rw [strOfNums_size, hexEnc_length]

theorem sgW_size (b : Bool) : (sgW b).size = 1 := by cases b <;> rfl

theorem flat_len {α : Type} (f : α → List ByteArray) (hf : ∀ a, (f a).length = 2) : ∀ xs : List α, (xs.flatMap f).length = 2 * xs.length
  | [] => rfl
  | a :: t => by rw [List.flatMap_cons, List.length_append, hf, flat_len f hf t, List.length_cons]; omega

/-- The words of a snapshot without a fault are few and short. -/
theorem snW_ok {x : Sn} (h : snFlt x = 0) : (snW x).length ≤ 90 ∧ ∀ w ∈ snW x, w.size ≤ 1099511627777 := by
  obtain ⟨q1, q2, q3, q4, q5, q6, q7, q8⟩ := sn_iff.1 h
  have hn : 0 ≤ x.1 ∧ x.1 ≤ 1099511627776 := by unfold within at q1; simpa using q1
  constructor
  · unfold snW snW5 snW4 snW3 snW2 snW1
    simp only [List.length_append, List.length_cons, List.length_nil, List.length_map, flat_len rcW (fun _ => rfl), flat_len vtW (fun _ => rfl)]
    have := q3.2.2
    omega
  · intro w hw
    unfold snW snW5 snW4 snW3 snW2 snW1 at hw
    simp only [List.mem_append, List.mem_cons, List.not_mem_nil, or_false, List.mem_map, List.mem_flatMap, rcW, vtW] at hw
    rcases hw with ((((((rfl | rfl | rfl) | ⟨z, hz, rfl⟩) | rfl) | ⟨r, hr, rfl | rfl⟩) | rfl) | ⟨v, hv, rfl | rfl⟩)
    · decide
    · exact dgW_size _ hn.1 hn.2
    · decide
    · rw [hxW_size, q3.2.1 z hz]; omega
    · decide
    · have := q6.1 r hr
      exact dgW_size _ (by omega) (by omega)
    · rw [hxW_size, (q6.1 r hr).1]; omega
    · decide
    · rw [hxW_size, (q7 v hv).1]; omega
    · rw [ByteArray.size_append, sgW_size, hxW_size, (q7 v hv).2.1]; omega

end Go.Proofs.YtpkfgffgldjceaaDoor

/- What is proved here: what the model's l1Digits answers: the decimal digits of a number. -/
namespace Go.Proofs.YtpkfgffgldjceaaDoor
open Go.RowKit
set_option linter.unusedVariables false
set_option maxRecDepth 100000

theorem brow_oneW (W : World) (d : Int) (t : TypeId) (h0 : 0 ≤ d) (h1 : d ≤ 255) : BRow (W.alloc (.cells #[.int .u8 d] t)) (some ⟨W.heap.size, 0, none⟩) 1 [d] := by
  refine ⟨rfl, fun n hn => by simp at hn; omega, fun e => (by cases e), fun x hx i hi => ?_⟩
  cases hx
  have : i = 0 := by omega
  subst this
  have h := (SBlk.new W #[.int .u8 d] t).cell 0
  rw [add_none]
  exact h.trans rfl

theorem digit_strW (r : Nat) (h : r < 10) : strOfNums [48 + (r : Int)] = ⟨#[UInt8.ofNat (48 + r)]⟩ := by
  have : r = 0 ∨ r = 1 ∨ r = 2 ∨ r = 3 ∨ r = 4 ∨ r = 5 ∨ r = 6 ∨ r = 7 ∨ r = 8 ∨ r = 9 := by omega
  rcases this with rfl | rfl | rfl | rfl | rfl | rfl | rfl | rfl | rfl | rfl <;> rfl

theorem digit_convW (W : World) (b : Nat) (d : Int) (h : BRow W (some ⟨b, 0, none⟩) 1 [d]) : (convert 57 9 (.slice (some ⟨b, 0, none⟩) 1 1)).run Tryd.prog W = .ok (.string (strOfNums [d])) W :=
  conv_any W 57 5 9 Tryd.underlying57 Tryd.underlying5 Tryd.underlying9 _ 1 1 [d] h

set_option maxHeartbeats 4000000 in
theorem l1DigitsW_any (n : Nat) (hn : n ≤ 1099511627777) : ∀ w, Calls Tryd.prog 45 #[.int .i64 n] w fun e w' => e = .returned (.string ⟨(Lib.decDigits n).toArray⟩) ∧ Below w.heap.size w w' := by
  induction n using Nat.strongRecOn with
  | ind n ih =>
    intro w
    by_cases h : n < 10
    · have HS : Hid ((⟨(Lib.decDigits n).toArray⟩ : ByteArray) = strOfNums [48 + (n : Int)]) := by show _ = _; rw [Lib.decDigits, dif_pos h, digit_strW n h]
      have h1 : decide ((n : Int) < 0) = false := decide_eq_false (by omega)
      have h2 : decide ((n : Int) < 10) = true := decide_eq_true (by omega)
      have CV := digit_convW _ w.heap.size (48 + (n : Int)) (brow_oneW w (48 + (n : Int)) 5 (by omega) (by omega))
      have HB := hide (below_alloc w (.cells #[.int .u8 (48 + (n : Int))] 5))
      clear ih
      go_enter Tryd.func45, Tryd.ntmps45
      go_wp2_with fail
      go_ret
      exact ⟨by rw [unhide HS]; rfl, unhide HB⟩
    · have HI := hide (ih (n / 10) (by omega) (by omega))
      obtain ⟨q, hq⟩ : ∃ q, q = n / 10 := ⟨_, rfl⟩
      obtain ⟨r, hr⟩ : ∃ r, r = n % 10 := ⟨_, rfl⟩
      have hr9 : r < 10 := by omega
      have HS : Hid ((⟨(Lib.decDigits n).toArray⟩ : ByteArray) = (⟨(Lib.decDigits q).toArray⟩ : ByteArray) ++ strOfNums [48 + (r : Int)]) := by
        show _ = _
        rw [Lib.decDigits, dif_neg h, ← hq, ← hr, digit_strW r hr9]
        apply ByteArray.ext
        simp
      rw [← hq] at HI
      have h1 : decide ((n : Int) < 0) = false := decide_eq_false (by omega)
      have h2 : decide ((n : Int) < 10) = false := decide_eq_false (by omega)
      have d1 : (n : Int).tdiv 10 = (q : Int) := by rw [Int.tdiv_eq_ediv_of_nonneg (by omega)]; omega
      have d1' : (n : Int) / 10 = (q : Int) := by omega
      have d2 : IntKind.i64.wrap (q : Int) = (q : Int) := by rw [IntKind.wrap_i64]; omega
      have r1 : (n : Int).tmod 10 = (r : Int) := by rw [Int.tmod_eq_emod_of_nonneg (by omega)]; omega
      have r1' : (n : Int) % 10 = (r : Int) := by omega
      have r2 : IntKind.i64.wrap (r : Int) = (r : Int) := by rw [IntKind.wrap_i64]; omega
      have HL : Hid (q ≤ 1099511627777) := by show _ ≤ _; omega
      clear ih hq hr h
      have cva : ∀ W : World, (convert 57 9 (.slice (some ⟨W.heap.size, 0, none⟩) 1 1)).run Tryd.prog (W.alloc (.cells #[.int .u8 (48 + (r : Int))] 5)) = .ok (.string (strOfNums [48 + (r : Int)])) (W.alloc (.cells #[.int .u8 (48 + (r : Int))] 5)) := fun W => digit_convW _ _ _ (brow_oneW W _ 5 (by omega) (by omega))
      have cvd : (convert 57 9 (.slice (some ⟨w.heap.size, 0, none⟩) 1 1)).run Tryd.prog (w.alloc (.cells #[.int .u8 (48 + (r : Int))] 5)).drew = .ok (.string (strOfNums [48 + (r : Int)])) (w.alloc (.cells #[.int .u8 (48 + (r : Int))] 5)).drew := digit_convW _ _ _ ((brow_oneW w _ 5 (by omega) (by omega)).below (Below.refl _ _).drew (Nat.le_refl _))
      have CVB : Hid (∀ (w1 : World), Below ((w.alloc (.cells #[.int .u8 (48 + (r : Int))] 5)).drew).heap.size ((w.alloc (.cells #[.int .u8 (48 + (r : Int))] 5)).drew) w1 → (convert 57 9 (.slice (some ⟨w.heap.size, 0, none⟩) 1 1)).run Tryd.prog w1 = .ok (.string (strOfNums [48 + (r : Int)])) w1) := fun w1 b1 => digit_convW w1 _ _ (((brow_oneW w _ 5 (by omega) (by omega)).below (Below.refl _ _).drew (Nat.le_refl _)).below b1 (Nat.le_refl _))
      have HZ : Hid ((strOfNums [48 + (r : Int)]).size = 1) := by show _ = _; rw [strOfNums_size]; rfl
      have HZQ : Hid ((⟨(Lib.decDigits q).toArray⟩ : ByteArray).size ≤ 1099511627778) := by
        show (Lib.decDigits q).toArray.size ≤ 1099511627778
        have hd : ∀ m, m ≤ 1099511627777 → (Lib.decDigits m).length ≤ m + 1 := by
          intro m
          induction m using Nat.strongRecOn with
          | ind m ihm =>
            intro hm
            rw [Lib.decDigits]
            split
            · simp
            · have := ihm (m / 10) (by omega) (by omega)
              simp; omega
        have := hd q (by have := unhide HL; omega)
        have := unhide HL
        simp; omega
      have HBA : Hid (Below w.heap.size w (w.alloc (.cells #[.int .u8 (48 + (r : Int))] 5)).drew) := ((Below.refl w.heap.size w).alloc (Nat.le_refl _) _).drew
      have HBD : Hid (Below w.heap.size w w.drew) := (Below.refl w.heap.size w).drew
      generalize (⟨(Lib.decDigits n).toArray⟩ : ByteArray) = sn at HS ⊢
      generalize (⟨(Lib.decDigits q).toArray⟩ : ByteArray) = sq at HS HI HZQ
      generalize strOfNums [48 + (r : Int)] = ds at HS cva cvd CVB HZ
      have hsz : ¬ (9223372036854775807 < sq.size + ds.size) := by have := unhide HZ; have := unhide HZQ; omega
      have wr1 : IntKind.i64.wrap (48 + (r : Int)) = 48 + (r : Int) := by rw [IntKind.wrap_i64]; omega
      have wr2 : IntKind.u8.wrap (48 + (r : Int)) = 48 + (r : Int) := by rw [IntKind.wrap_u8]; omega
      clear hn
      go_enter Tryd.func45, Tryd.ntmps45
      go_wp2_with fail
      go_region_law (first
        | (go_simp; go_at_call 45; refine ((unhide HI) _).mono ?_; rintro e w1 ⟨rfl, b1⟩; (first | (have cvc := (unhide CVB) w1 b1; have BB : Below w.heap.size w w1 := (unhide HBA).trans (b1.mono (unhide HBA).size)) | (have BB : Below w.heap.size w w1 := (unhide HBD).trans (b1.mono (unhide HBD).size)))))
      all_goals
        go_wp2_with fail
        go_ret
        first
          | exact ⟨by rw [unhide HS]; rfl, BB⟩
          | exact ⟨by rw [unhide HS]; rfl, BB.alloc BB.size _⟩

end Go.Proofs.YtpkfgffgldjceaaDoor

/- What is proved here: what the model's l1Digit answers. -/
namespace Go.Proofs.YtpkfgffgldjceaaDoor
open Go.RowKit
set_option linter.unusedVariables false
set_option maxRecDepth 100000

set_option maxHeartbeats 1000000 in
theorem l1Digit_any (v : Int) (w : World) (h0 : 0 ≤ v) (h1 : v < 16) : Calls Tryd.prog 69 #[.int .u8 v] w fun e w' => e = .returned (.string (digs.extract v.toNat (v.toNat + 1))) ∧ w' = w := by
  obtain ⟨n, rfl⟩ := Int.eq_ofNat_of_zero_le h0
  go_enter Tryd.func69, Tryd.ntmps69
  go_wp2
  go_ret
  exact ⟨rfl, rfl⟩

end Go.Proofs.YtpkfgffgldjceaaDoor

/- What is proved here: what the model's l1Hex answers for slices of at most 2^20 bytes. -/
namespace Go.Proofs.YtpkfgffgldjceaaDoor
open Go.RowKit
set_option linter.unusedVariables false
set_option maxRecDepth 100000

theorem u8_div (x : Int) (h0 : 0 ≤ x) (h1 : x ≤ 255) : IntKind.u8.wrap (x.tdiv 16) = x / 16 ∧ x.tmod 16 = x % 16 := by
  have e : x.tdiv 16 = x / 16 := Int.tdiv_eq_ediv_of_nonneg h0
  have e2 : x.tmod 16 = x % 16 := Int.tmod_eq_emod_of_nonneg h0
  rw [e, e2]
  refine ⟨?_, rfl⟩
  simp [IntKind.wrap, IntKind.bits, IntKind.signed]
  omega

set_option maxHeartbeats 1000000 in
theorem l1Hex_any (a : Option Addr) (len cap : Nat) (xs : List Int) (w : World) (h : BRow w a len xs) (hl : len ≤ 1048576) :
    Calls Tryd.prog 46 #[.slice a len cap] w fun e w' => e = .returned (.string (strOfNums (hexEnc xs))) ∧ ∃ n, w' = w.drewN n := by
  rcases Nat.eq_zero_or_pos len with h0 | hp
  · subst h0
    have hx : xs = [] := List.length_eq_zero_iff.1 h.1
    subst hx
    clear h hl
    go_enter Tryd.func46, Tryd.ntmps46
    go_wp2
    refine wp_loop_rounds 1 ?_
    rw [rounds_succ]
    go_wp2
    go_ret
    exact ⟨rfl, 0, rfl⟩
  · obtain ⟨b, off, rfl, hb, hc⟩ := h.at hp
    have hxl := h.1
    have hxb := h.2.1
    have HC := hide hc
    have HXB := hide hxb
    clear h hc hxb
    go_enter Tryd.func46, Tryd.ntmps46
    go_wp2
    go_loopw [3, 4] (fun o i wr => ∃ k n : Nat, k ≤ len ∧ i = .int .i64 k ∧ o = .string (strOfNums (hexEnc (xs.take k))) ∧ wr = w.drewN n) (fun _ i _ => len - (intOf i).toNat)
    case atStart => exact ⟨0, 0, Nat.zero_le _, rfl, rfl, rfl⟩
    case round =>
      obtain ⟨k, n, hk, rfl, rfl, hwr⟩ := hrel
      have HWR := hide hwr
      by_cases hlt : k < len
      · have hck : wr.cell? ⟨b, off + k, none⟩ = some (.int .u8 (xs.getD k 0)) := by
          rw [hwr]; exact (unhide HC) k hlt
        clear hwr
        have hxk := (unhide HXB) (xs.getD k 0) (by rw [getD_at _ _ (by omega)]; exact List.getElem_mem _)
        have HS := hide (hexEnc_snoc xs k (by omega))
        have hsz := hexEnc_length (xs.take k)
        have hsz2 : (strOfNums (hexEnc (xs.take k))).size = 2 * k := by
          rw [strOfNums_size, hsz, List.length_take]; omega
        have i1 : (0 : Int) ≤ (k : Int) := by omega
        have i2 : (k : Int) < (len : Int) := by omega
        clear hsz
        generalize xs.getD k 0 = x at hck hxk HS
        generalize hexEnc (xs.take k) = L at HS hsz2
        obtain ⟨e1, e2⟩ := u8_div x hxk.1 hxk.2
        go_wp2
        go_quiet ((go_at_call 69; exact Calls.quiet_of_same (l1Digit_any _ _ (by omega) (by omega))))
        go_wp2
        go_roundw
        case rel => exact ⟨k + 1, n + nq, by omega, by go_num, by rw [str_snoc _ _ (by omega) (by omega), str_snoc _ _ (by omega) (by omega), unhide HS]; simp, by rw [unhide HWR]; exact World.drewN_drewN ..⟩
        case measure => simp [intOf]; omega
      · obtain rfl : k = len := by omega
        clear hwr
        go_wp2
        go_ret
        refine ⟨?_, n, unhide HWR⟩
        rw [List.take_of_length_le (by omega)]
        rfl

/-- The code and the text that HexOf gives. -/
def hoCode (xs : List Int) : Int := if 1200 < xs.length then 2 else 0
def hoText (xs : List Int) : ByteArray := if 1200 < xs.length then strOfNums [] else strOfNums (hexEnc xs)

end Go.Proofs.YtpkfgffgldjceaaDoor
