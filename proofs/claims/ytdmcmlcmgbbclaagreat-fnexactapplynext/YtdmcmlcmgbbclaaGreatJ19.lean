/- What is proved here: what slices.SortFunc makes of the keys of a poll: they stand by their places. -/
import Derived.Test.YtdmcmlcmgbbclaaGreatK0
import Derived.Test.YtdmcmlcmgbbclaaGreatJ18
import Derived.Shelf.SlSortCmp.WholeK
import Derived.Shelf.SlSortCmp.NoneTotal
import Derived.Test.YtdmcmlcmgbbclaaGreatJ7
import Derived.Test.YtdmcmlcmgbbclaaGreatChecked
import Derived.Test.YtdmcmlcmgbbclaaGreatJ1
import Derived.Test.YtdmcmlcmgbbclaaGreatJ8
import Derived.Laws.AppendOwnNone
import Derived.Lib.SliceRun
import Derived.WalkKit
import Derived.WalkLawsBesides
import Derived.WalkSmall
import Derived.WalkSpells
import Derived.KernelRfl
import Derived.Test.YtdmcmlcmgbbclaaGreatJ6
import Derived.Deep.AppendLies
import Derived.Laws.BitsAllLaws
import Derived.Laws.Bits64b
namespace Go.Proofs.YtdmcmlcmgbbclaaGreat
set_option linter.unusedVariables false
set_option linter.unusedSimpArgs false
open Go.RowKit
set_option maxRecDepth 100000

theorem swk_grown {α : Type} [Inhabited α] (enc : α → List Value) (k : Nat) (w : World) (blk off m : Nat) (dk : Array α) (os : Array Obj) : w.grownBy (sortWorldK enc k w blk off m dk os) (some blk) := by
 unfold sortWorldK Go.Sort.grow Go.Sort.putRowK Go.Sort.putRow Go.Sort.mapBlock Go.Sort.ahead
 refine ⟨rfl, rfl, rfl, by simp, fun g hg hne => ?_⟩
 simp only
 rw [Array.getElem?_append_left (by simpa using hg), Array.getElem?_modify, if_neg (fun e => hne (by rw [e]))]

theorem flatMap_at {α : Type} [Inhabited α] (enc : α → List Value) (k : Nat) (hk : ∀ x, (enc x).length = k) (k0 : 0 < k) : ∀ (l : List α) (t : Nat), t < l.length * k → (l.flatMap enc)[t]? = some ((enc (l[t / k]!))[t % k]!)
 | [], t, h => by simp at h
 | x :: r, t, h => by
  rw [List.flatMap_cons]
  by_cases ht : t < k
  · rw [List.getElem?_append_left (by rw [hk]; exact ht), Nat.div_eq_of_lt ht, Nat.mod_eq_of_lt ht]
    simp only [List.getElem!_cons_zero]
    rw [getElem!_pos (enc x) t (by rw [hk]; exact ht)]
    exact List.getElem?_eq_getElem (by rw [hk]; exact ht)
  · have hlt : t - k < r.length * k := by rw [List.length_cons, Nat.succ_mul] at h; omega
    rw [List.getElem?_append_right (by rw [hk]; omega), hk, flatMap_at enc k hk k0 r (t - k) hlt]
    have e1 : t / k = (t - k) / k + 1 := by
     have : t = (t - k) + k := by omega
     rw [this, Nat.add_div_right _ k0, Nat.add_sub_cancel]
    have e2 : t % k = (t - k) % k := by
     have : t = (t - k) + k := by omega
     rw [this, Nat.add_mod_right, Nat.add_sub_cancel]
    rw [e1, e2]
    rfl

theorem flatK_list {α : Type} [Inhabited α] (enc : α → List Value) (k : Nat) (hk : ∀ x, (enc x).length = k) (k0 : 0 < k) (d : Array α) : (Go.Sort.flatK enc k d).toList = d.toList.flatMap enc := by
 have hlen : (d.toList.flatMap enc).length = d.size * k := by
  rw [List.length_flatMap]
  simp only [hk, List.map_const', List.sum_replicate_nat]
  simp
 apply List.ext_getElem?
 intro t
 by_cases ht : t < d.size * k
 · rw [flatMap_at enc k hk k0 _ t (by simpa using ht)]
   have h1 := Go.Sort.get_flatK enc k d t ht
   rw [getElem!_pos _ t (by simpa using ht)] at h1
   rw [List.getElem?_eq_getElem (by simpa using ht)]
   simp only [Array.getElem_toList]
   have hq : t / k < d.size := Nat.div_lt_of_lt_mul (by rw [Nat.mul_comm]; exact ht)
   have e : d.toList[t / k]! = d[t / k]! := by rw [getElem!_pos d.toList (t / k) (by simpa using hq), getElem!_pos d (t / k) hq]; rfl
   rw [h1, e]
 · rw [List.getElem?_eq_none (by simp; omega), List.getElem?_eq_none (by omega)]

/-- A row that holds other things behind a sort. -/
theorem own_sorted {α : Type} [Inhabited α] (enc : α → List Value) (k : Nat) (hk : ∀ x, (enc x).length = k) (k0 : 0 < k) {w : World} {C blk cap n m : Nat} {T : TypeId} {xs : List Value} {d' : Array α} {os : Array Obj} (h : w.ownsRow C T k (.slice (some ⟨blk, 0, none⟩) n cap) n xs) (hd : d'.size = n) :
    (sortWorldK enc k w blk 0 m d' os).ownsRow C T k (.slice (some ⟨blk, 0, none⟩) n cap) n (d'.toList.flatMap enc) := by
 rcases h.2 with ⟨h1, _⟩ | ⟨g, cap', cur, h1, h2, h3, h4, h5, h6, h7⟩
 · simp at h1
 · simp only [Value.slice.injEq, Option.some.injEq, Addr.mk.injEq, and_true, true_and] at h1
   obtain ⟨rfl, rfl⟩ := h1
   have hb := lt_of_block h3
   have hF := flatK_list enc k hk k0 d'
   have hnc : n * k ≤ cap * k := Nat.mul_le_mul_right k h4
   refine ⟨by rw [← hF]; simp [hd], .inr ⟨blk, cap, Go.Sort.putCells id 0 (Go.Sort.flatK enc k d') cur, rfl, h2, ?_, h4, h5, by simp [Go.Sort.putCells, h6], ?_⟩⟩
   · unfold sortWorldK Go.Sort.grow Go.Sort.putRowK Go.Sort.putRow Go.Sort.mapBlock Go.Sort.ahead
     simp only
     rw [Array.getElem?_append_left (by simpa using hb), Array.getElem?_modify, if_pos rfl, h3]
     rfl
   · rw [← hF]
     apply List.ext_getElem?
     intro t
     by_cases ht : t < n * k
     · rw [List.getElem?_take, if_pos ht]
       have hts : t < (Go.Sort.flatK enc k d').size := by simp [hd]; exact ht
       simp only [Go.Sort.putCells, Array.getElem?_toList, Array.getElem?_mapIdx]
       rw [Array.getElem?_eq_getElem (by omega : t < cur.size), Array.getElem?_eq_getElem hts]
       simp only [Option.map_some, Nat.zero_add, Nat.sub_zero, id_eq]
       rw [if_pos ⟨Nat.zero_le _, hts⟩, getElem!_pos _ t hts]
     · rw [List.getElem?_eq_none (by simp; omega), List.getElem?_eq_none (by simp [hd]; omega)]

theorem ltQ (L : Pv) (x y : {q : Int × Vt // q ∈ L}) : ltOf (fun x y : {q : Int × Vt // q ∈ L} => cmpI x.1.1 y.1.1) x y = decide (x.1.1 < y.1.1) := by
 unfold ltOf cmpI
 by_cases h1 : x.1.1 < y.1.1
 · simp [h1]
 · by_cases h2 : y.1.1 < x.1.1 <;> simp [h1, h2]

theorem swoQ (L : Pv) : Go.Sort.SWO (ltOf fun x y : {q : Int × Vt // q ∈ L} => cmpI x.1.1 y.1.1) where
 irrefl x := by rw [ltQ]; simp
 trans x y z h1 h2 := by rw [ltQ] at *; simp at *; omega
 ntrans x y z h1 h2 := by rw [ltQ] at *; simp at *; omega

theorem encQ_len {L : Pv} (had : ∀ q ∈ L, Adr q.2.1 ∧ Adr q.2.2.1) (x : {q : Int × Vt // q ∈ L}) : (encQ x.1).length = 8 := by
 have h := had x.1 x.2
 unfold encQ
 rw [List.length_map, List.length_append, h.1.1, h.2.1]

set_option maxHeartbeats 2000000 in
theorem sortQ_any (g k B C blk cap : Nat) (L ks : Pv) (w : World) (hp : PollV w g k L) (hc : w.cell? ⟨B, 0, none⟩ = some (.map (some g))) (hks : ∀ q ∈ ks, q ∈ L) (hne : 0 < ks.length) (hl : ks.length ≤ 31)
    (ho : w.ownsRow C 117 8 (.slice (some ⟨blk, 0, none⟩) ks.length cap) ks.length (ks.flatMap encQ)) (hbg : blk ≠ g) (hbB : blk ≠ B) :
    Calls Tryz.prog 125 #[.slice (some ⟨blk, 0, none⟩) ks.length cap, .func (.func 126) #[] #[.pointer (some ⟨B, 0, none⟩)]] w fun e w' => e = .returned (.tuple #[]) ∧
     ∃ ms : Pv, ms.Perm ks ∧ ms.Pairwise (fun a b => a.1 ≤ b.1) ∧ w'.ownsRow C 117 8 (.slice (some ⟨blk, 0, none⟩) ks.length cap) ks.length (ms.flatMap encQ) ∧ w.grownBy w' (some blk) := by
 have had : ∀ q ∈ L, Adr q.2.1 ∧ Adr q.2.2.1 := by obtain ⟨D, _, hpd⟩ := hp; exact hpd.adr
 haveI : Inhabited {q : Int × Vt // q ∈ L} := ⟨⟨ks[0], hks _ (List.getElem_mem hne)⟩⟩
 have hlen := encQ_len had
 obtain ⟨l, hlm⟩ : ∃ l : List {q : Int × Vt // q ∈ L}, l.map Subtype.val = ks := ⟨ks.pmap (fun q h => ⟨q, h⟩) hks, by simp [List.map_pmap]⟩
 have hll : l.length = ks.length := by rw [← hlm]; simp
 have hfl : ∀ m : List {q : Int × Vt // q ∈ L}, m.flatMap (fun q => encQ q.1) = (m.map Subtype.val).flatMap encQ := fun m => by rw [List.flatMap_map]
 have hblk : blk < w.heap.size := (ho.lt blk rfl).2
 have eg : ∀ args w, (callFunc 126 args).run Tryz.prog w = .ok (.enter 126 args) w := enters_of Tryz.func126 (by kernel_rfl) rfl
 have hH : Go.Sort.HoldsK (fun q : {q : Int × Vt // q ∈ L} => encQ q.1) 8 w blk 0 l.toArray := by
  intro j hj
  have hj2 : j < ks.length * 8 := by simpa [hll] using hj
  refine ⟨?_, ?_⟩
  · rw [Nat.zero_add, ho.cellAt j (by omega)]
    have hF := flatK_list (fun q : {q : Int × Vt // q ∈ L} => encQ q.1) 8 hlen (by decide) l.toArray
    simp only at hF
    rw [hfl, hlm] at hF
    rw [← hF, List.getElem?_eq_getElem (by simpa using hj), getElem!_pos _ j hj]
    rfl
  · rw [Nat.zero_add]
    exact ho.frozenAt j
 have hcmp : CmpLays Tryz.prog 126 #[.pointer (some ⟨B, 0, none⟩)] (fun q : {q : Int × Vt // q ∈ L} => encQ q.1) 8 (fun x y => cmpI x.1.1 y.1.1) blk 0 l.toArray.size w := fun m os dk hs x y => by
  have hg := swk_grown (fun q : {q : Int × Vt // q ∈ L} => encQ q.1) 8 w blk 0 m dk os
  have hp' : PollV (sortWorldK (fun q : {q : Int × Vt // q ∈ L} => encQ q.1) 8 w blk 0 m dk os) g k L := by
   obtain ⟨D, h1, h2⟩ := hp
   exact ⟨D, h1.kept hg (fun e => hbg (Option.some.inj e).symm), h2⟩
  have hc' := hg.cell hc (fun e => hbB (Option.some.inj e).symm)
  exact byPlace_any g k B L x.1 y.1 x.2 y.2 _ hp' hc'
 have hcon := AnyQ.slices_SortFunc Tryz.laysSort 8 (fun w => by kernel_rfl) (fun w => by kernel_rfl) (fun q : {q : Int × Vt // q ∈ L} => encQ q.1) hlen (fun x v hv => by unfold encQ at hv; obtain ⟨z, _, rfl⟩ := List.mem_map.1 hv; rfl) (fun x y => cmpI x.1.1 y.1.1) (swoQ L) 126 #[.pointer (some ⟨B, 0, none⟩)] blk 0 cap l.toArray w eg hcmp hH hblk (by simp; omega)
 rw [show l.toArray.size = ks.length from by simp [hll]] at hcon
 refine Calls.mono hcon ?_
 rintro e w' ⟨rfl, d', n, os, hpm, hst, rfl⟩
 have hds : d'.size = ks.length := by have := hpm.1; simpa [hll] using this
 have hper : d'.toList.Perm l := by
  have := hpm.2.2
  rw [← hds] at this
  have h2 : List.take d'.size l = l := List.take_of_length_le (by omega)
  simpa [h2] using this
 refine ⟨rfl, d'.toList.map Subtype.val, ?_, ?_, ?_, swk_grown _ _ _ _ _ _ _ _⟩
 · rw [← hlm]
   exact hper.map _
 · rw [List.pairwise_map, List.pairwise_iff_getElem]
   intro i j hi hj hij
   have h1 := hst i j (Nat.zero_le _) hij (by simp at hj; omega)
   rw [ltQ, getElem!_pos _ j (by simpa using hj), getElem!_pos _ i (by simpa using hi)] at h1
   simpa using h1
 · have := own_sorted (fun q : {q : Int × Vt // q ∈ L} => encQ q.1) 8 hlen (by decide) (m := n) (os := os) (d' := d') ho hds
   rw [hfl] at this
   exact this

set_option maxRecDepth 100000

theorem infoBallot : (Tryz.prog.info? 117).map (fun i => (i.zero, i.size, i.bytes)) = some (some (.agg #[.int .u8 0, .int .u8 0, .int .u8 0, .int .u8 0, .int .u8 0, .int .u8 0, .int .u8 0, .int .u8 0]), 8, 8) := by kernel_rfl

theorem news8 (w : World) (a0 a1 a2 a3 a4 a5 a6 a7 : Value) (t : TypeId) : ∀ (j : Nat) (u : Value), [a0, a1, a2, a3, a4, a5, a6, a7][j]? = some u → (w.alloc (.cells #[a0, a1, a2, a3, a4, a5, a6, a7] t)).cell? ((⟨w.heap.size, 0, none⟩ : Addr).add j) = some u := by
 intro j u hj
 rw [add_none, Nat.zero_add, World.cell?_alloc_new]
 simpa using hj

theorem pv_of_key {L : Pv} {s t : List Int} (h : (s, t) ∈ pvKeys L) : ∃ q ∈ L, q.2.1 = s ∧ q.2.2.1 = t := by
 obtain ⟨q, hq, e⟩ := pv_keys.1 h
 simp only [Prod.mk.injEq] at e
 exact ⟨q, hq, e.1, e.2⟩

/-- Votes that hold those of a list whose places rise, and whose own places do not fall, are that list. -/
theorem rise_of_sorted {L ms : Pv} (hp : ms.Perm L) (hL : Rise L) (hs : ms.Pairwise (fun a b => a.1 ≤ b.1)) : ms = L := by
 have hL' : L.Pairwise (fun a b => a.1 < b.1) := hL
 have hn : (L.map Prod.fst).Nodup := by
  rw [List.Nodup, List.pairwise_map]
  exact List.Pairwise.imp (fun {a b} (h : a.1 < b.1) => (by omega : a.1 ≠ b.1)) hL'
 have hn2 : (ms.map Prod.fst).Nodup := (hp.map Prod.fst).nodup_iff.2 hn
 rw [List.Nodup, List.pairwise_map] at hn2
 refine rise_perm hp ?_ hL
 exact List.Pairwise.imp (fun {a b} h => (by have h1 := h.1; have h2 := h.2; show a.1 < b.1; omega)) (List.Pairwise.and hs hn2)

set_option maxRecDepth 100000

theorem vtG_snoc {T : TypeId} {wr WW W1 W2 WA W3 : World} {B : Nat} {d : Nat → Path} {p : Path} {s : Sl} {xs : List Vt} {es : List VtS} {a1 a2 : Option Addr} {c1 c2 n1 n2 g2 cap2 : Nat} {z1 z2 : List Int} {q : Bool} (hB : B ≤ wr.heap.size)
    (h1 : s.n = xs.length) (h2 : es.length = xs.length) (h4 : ∀ x, s.a = some x → d x.block = p) (h4b : ∀ x, s.a = some x → x.block < wr.heap.size) (h5 : ∀ i e x, es[i]? = some e → xs[i]? = some x → vtK.Own wr B d (p ++ [i]) e x)
    (b0 : Below wr.heap.size wr WW) (r1 : ∀ x ∈ z1, 0 ≤ x ∧ x ≤ 255) (r2 : ∀ x ∈ z2, 0 ≤ x ∧ x ≤ 255)
    (ho1 : W1.ownsRow WW.heap.size 5 1 (.slice a1 n1 c1) n1 (z1.map (Value.int .u8))) (b1 : Below WW.heap.size WW W1)
    (ho2 : W2.ownsRow W1.heap.size 5 1 (.slice a2 n2 c2) n2 (z2.map (Value.int .u8))) (b2 : Below W1.heap.size W1 W2) (bA : Below W2.heap.size W2 WA)
    (hown : W3.ownsRow B T 3 (.slice (some ⟨g2, 0, none⟩) (s.n + 1) cap2) (s.n + 1) (flatV vtK es xs ++ [.slice a1 n1 c1, .slice a2 n2 c2, .bool q])) (hg : WA.grownBy W3 (Value.slice s.a s.n s.c).ownBlock) (hat : (Value.slice s.a s.n s.c).ownBlock = some g2 ∨ g2 = WA.heap.size) :
    ∃ d', RowG vtK T W3 B d' p ⟨some ⟨g2, 0, none⟩, s.n + 1, cap2⟩ (xs ++ [(z1, z2, q)]) := by
 have k0 := b0.size
 have k1 := b1.size
 have k2 := b2.size
 have k3 := bA.size
 obtain ⟨d1, hd1⟩ : ∃ d1 : Nat → Path, d1 = fun g => if g < wr.heap.size then d g else if g < W1.heap.size then p ++ [xs.length] ++ [0] else p ++ [xs.length] ++ [1] ++ [0] := ⟨_, rfl⟩
 have dl : ∀ g, g < wr.heap.size → d1 g = d g := fun g hg' => by rw [hd1]; exact if_pos hg'
 have B1 : Below wr.heap.size wr W1 := b0.trans (b1.mono k0)
 have B2 : Below wr.heap.size wr W2 := B1.trans (b2.mono B1.size)
 have BA : Below wr.heap.size wr WA := B2.trans (bA.mono B2.size)
 have own : vtK.Own WA B d1 (p ++ [xs.length]) (⟨a1, n1, c1⟩, ⟨a2, n2, c2⟩, ()) (z1, z2, q) := by
  refine ⟨⟨r1, ?_, fun x hx => ?_⟩, ⟨r2, ?_, fun x hx => ?_⟩, trivial⟩
  · exact ownsRow_base (own_below (own_below ho1 b2 (Nat.le_refl _)) bA (Nat.le_refl _)) (Nat.le_trans hB k0)
  · have := (OwnS.of ho1).blk hx
    rw [hd1]
    show (if x.block < wr.heap.size then d x.block else if x.block < W1.heap.size then _ else _) = _
    rw [if_neg (by omega), if_pos this.2]
  · exact ownsRow_base (own_below ho2 bA (Nat.le_refl _)) (Nat.le_trans hB (Nat.le_trans k0 k1))
  · have := (OwnS.of ho2).blk hx
    rw [hd1]
    show (if x.block < wr.heap.size then d x.block else if x.block < W1.heap.size then _ else _) = _
    rw [if_neg (by omega), if_neg (by omega)]
 exact ⟨_, RowG.snoc (w := WA) (d := d1) h1 h2 (fun x hx => by rw [dl _ (h4b x hx)]; exact h4 x hx) (fun i e x he hx => vtK.ownBelow (vtK.recolNew (h5 i e x he hx) dl) BA (Nat.le_refl _)) own hown hg hat⟩

set_option maxRecDepth 100000

set_option maxHeartbeats 1000000 in
theorem clone_any (a : Option Addr) (n cap : Nat) (zs : List Int) (w : World) (h : BRow w a n zs) (hn : n ≤ 1048576) :
    Calls Tryz.prog 74 #[.slice a n cap] w fun e w' => ∃ (a' : Option Addr) (cap' : Nat), e = .returned (.slice a' n cap') ∧ w'.ownsRow w.heap.size 5 1 (.slice a' n cap') n (zs.map (Value.int .u8)) ∧ Below w.heap.size w w' := by
 obtain ⟨i0, hi, hz0, hz1, hz2⟩ := info_parts info5
 have qT : ∀ (w : World) (a : Option Addr) (n c n' c' : Nat), (binOp .eql 29 (.slice a n c) (.slice none n' c')).run Tryz.prog w = .ok (.bool a.isNone) w := fun w a n c n' c' => Lib.run_eql_slice_nil w _ _ a n c n' c' Tryz.underlying29
 have hown0 : (w.alloc (.cells #[] 5)).ownsRow w.heap.size 5 1 (.slice (some ⟨w.heap.size, 0, none⟩) 0 0) 0 (([] : List Int).map (Value.int .u8)) := World.ownsRow_lit w #[] 0 (Nat.le_refl _) (by unfold maxLen; omega) rfl
 have hb := below_alloc w (.cells #[] 5)
 have hr := h.below hb (Nat.le_refl _)
 cases a with
 | none =>
  obtain rfl : n = 0 := h.2.2.1 rfl
  obtain rfl : zs = [] := List.length_eq_zero_iff.1 h.1
  clear h hr hb hown0
  go_enter Tryz.func74, Tryz.ntmps74
  go_wp2_with fail
  go_ret
  exact ⟨none, 0, rfl, World.ownsRow_nil _ _ _ _, Below.refl _ _⟩
 | some x =>
  have HR := hide hr
  have HB := hide hb
  clear h hr hb
  go_enter Tryz.func74, Tryz.ntmps74
  go_wp2_with (at_builtin; refine wpList_append_brow _ rfl _ _ 29 rfl w.heap.size i0 Tryz.underlying29 hi hz0 hz1 hz2 _ 0 [] rfl hown0 (some x) n cap zs rfl (unhide HR) (fun e => by cases e) (by omega) (unhide HB).size ?_)
  intro a3 c3 w3 o3 g3
  have B3 : Below w.heap.size w w3 := (unhide HB).grown g3 (unhide HB).size (fun g e => (hown0.lt g e).1)
  have HO := hide o3
  have HB3 := hide B3
  clear o3 g3 B3 hown0
  go_wp2_with fail
  go_ret
  refine ⟨a3, c3, by simp, ?_, unhide HB3⟩
  simpa using unhide HO

set_option maxRecDepth 100000

theorem flatQ_at : ∀ (ms : Pv) (j i : Nat) (q : Int × Vt), (∀ q ∈ ms, (encQ q).length = 8) → ms[j]? = some q → i < 8 → (ms.flatMap encQ)[j * 8 + i]? = (encQ q)[i]?
 | [], j, i, q, _, h, _ => by simp at h
 | m :: r, 0, i, q, h8, h, hi => by
  simp at h
  subst h
  rw [List.flatMap_cons, Nat.zero_mul, Nat.zero_add, List.getElem?_append_left (by rw [h8 m List.mem_cons_self]; exact hi)]
 | m :: r, j + 1, i, q, h8, h, hi => by
  rw [List.flatMap_cons, List.getElem?_append_right (by rw [h8 m List.mem_cons_self]; omega), h8 m List.mem_cons_self, show (j + 1) * 8 + i - 8 = j * 8 + i by omega]
  exact flatQ_at r j i q (fun q hq => h8 q (List.mem_cons_of_mem _ hq)) (by simpa using h) hi

theorem three_new (w : World) (x y z : Value) (t : TypeId) : ∀ (j : Nat) (u : Value), [x, y, z][j]? = some u → (w.alloc (.cells #[x, y, z] t)).cell? ((⟨w.heap.size, 0, none⟩ : Addr).add j) = some u := by
 intro j u hj
 rw [add_none, Nat.zero_add, World.cell?_alloc_new]
 simpa using hj

set_option maxHeartbeats 8000000 in
theorem list_any (g k : Nat) (L : Pv) (p : Path) (w : World) (hp : PollV w g k L) (hr : Rise L) (hl : L.length ≤ 31) :
    Calls Tryz.prog 106 #[.map (some g)] w fun e w' => (∃ (t : Sl) (d : Nat → Path), e = .returned (.slice t.a t.n t.c) ∧ RowOwn vtK 97 w' w.heap.size d p t (L.map Prod.snd)) ∧ Below w.heap.size w w' := by
 obtain ⟨D, hown, hpd⟩ := hp
 obtain ⟨i0, hi, hz0, hz1, hz2⟩ := info_parts infoBallot
 have hgw : g < w.heap.size := hown.lt
 have ba := below_alloc w (.cells #[.map (some g)] 106)
 have cB : (w.alloc (.cells #[.map (some g)] 106)).cell? ⟨w.heap.size, 0, none⟩ = some (.map (some g)) := by simp
 have zB : w.heap.size < (w.alloc (.cells #[.map (some g)] 106)).heap.size := by simp
 replace hown := hown.alloc (.cells #[.map (some g)] 106)
 obtain ⟨W0, e0⟩ : ∃ W, w.alloc (.cells #[.map (some g)] 106) = W := ⟨_, rfl⟩
 rw [e0] at ba cB zB hown
 go_enter Tryz.func106, Tryz.ntmps106
 go_wp2_with (first | (rw [e0]) | (at_range; refine wpList_range_own _ rfl _ 106 rfl 117 121 ballotLaw Tryz.underlying106 standR g k D rfl hown ?_; intro w0 hrg0 hg0 hs0))
 have hw0 : Below W0.heap.size W0 w0 := (Below.refl _ _).grown hg0 (Nat.le_refl _) (fun q e => by cases e)
 have BA := hide ba
 have HO := hide hown
 have HPD := hide hpd
 have HCB := hide cB
 have hs1 : W0.heap.size < w0.heap.size := hrg0.lt
 clear ba hown hpd cB e0
 simp only [Act.put, List.setIfInBounds_toArray, List.set_cons_zero, List.set_cons_succ]
 go_loopw [3] (fun v wr => ∃ (left : Lit → Bool) (cnt : Nat) (ks : Pv) (da : Option Addr) (dc : Nat), wr.ranges Tryz.prog 117 standR g W0.heap.size k D left cnt ∧ v = .slice da ks.length dc ∧ wr.ownsRow (W0.heap.size + 1) 117 8 (.slice da ks.length dc) ks.length (ks.flatMap encQ) ∧ ks.Perm (pvGone L left) ∧ Below W0.heap.size W0 wr ∧ W0.heap.size < wr.heap.size) (fun _ wr => wr.rangeLeft g W0.heap.size)
 case atStart => exact ⟨_, _, [], none, 0, hrg0, rfl, World.ownsRow_nil _ _ _ _, by rw [gone_start (fun q hq => by rw [(unhide HPD).has _ _ ((unhide HPD).adr q hq).1 ((unhide HPD).adr q hq).2]; exact decide_eq_true (pv_mem hq))], hw0, hs1⟩
 case round =>
  obtain ⟨left, cnt, ks, da, dc, hrg, rfl, hks, hpm, hbr, hwl⟩ := hrel
  clear hrg0 hw0 hs1 hg0 hs0
  go_wp2_with (first
   | (at_next; refine wpList_next_ranges (α := Key8) (β := Std2) _ rfl _ rfl 117 ballotLaw standR Key8.val Std2.val (fun key kl h => by obtain ⟨z0, z1, z2, z3, x0, x1, x2, x3, rfl, _⟩ := key_inv h; exact ⟨⟨z0, z1, z2, z3, x0, x1, x2, x3⟩, rfl⟩) (fun v y h => by obtain ⟨n, b, rfl⟩ := standR_inv h; exact ⟨⟨n, b⟩, rfl⟩) g W0.heap.size k D left cnt rfl hrg ?_ ?_)
   | fail)
  · intro _ hl0
    rw [gone_end hl0] at hpm
    have HPM := hide hpm
    have HKS := hide hks
    have HBR := hide hbr
    clear hpm hks hbr hrg
    by_cases hz : ks.length = 0
    · obtain rfl : ks = [] := List.length_eq_zero_iff.1 hz
      go_wp2_with fail
      refine (AnyF.slices_SortFunc_none Tryz.laysSort da dc _ wr).mono ?_
      rintro e w2 ⟨rfl, rfl⟩
      go_wp2_with fail
      refine wp_loop_rounds 1 ?_
      rw [rounds_succ]
      go_wp2_with fail
      go_ret
      have hL0 : L = [] := (unhide HPM).nil_eq.symm
      exact ⟨⟨⟨none, 0, 0⟩, fun _ => [], rfl, by rw [hL0]; exact RowOwn.nil _ _ _ _ _ _⟩, (unhide BA).trans ((unhide HBR).mono (unhide BA).size)⟩
    · obtain ⟨blk, c2, hv2⟩ := own_some (unhide HKS) (by omega)
      simp only [Value.slice.injEq] at hv2
      obtain ⟨rfl, _, rfl⟩ := hv2
      have hbl := ((unhide HKS).lt blk rfl).1
      have hks : ∀ q ∈ ks, q ∈ L := fun q hq => (unhide HPM).mem_iff.1 hq
      have hlk : ks.length ≤ 31 := by have := (unhide HPM).length_eq; omega
      have hgB : g < W0.heap.size := Nat.lt_trans hgw zB
      have HST := hide (sortQ_any g k w.heap.size (W0.heap.size + 1) blk dc L ks wr ⟨D, (unhide HO).kept (grown_of_below (unhide HBR) (Nat.le_refl _)) (by simp), unhide HPD⟩ (((unhide HBR).cell zB).trans (unhide HCB)) hks (by omega) hlk (unhide HKS) (by omega) (by omega))
      go_wp2_with fail
      refine (unhide HST).mono ?_
      rintro e w2 ⟨rfl, ms, hm1, hm2, o2, g2⟩
      obtain rfl : ms = L := rise_of_sorted (hm1.trans (unhide HPM)) hr hm2
      have B2 : Below W0.heap.size W0 w2 := (unhide HBR).grown g2 (unhide HBR).size (fun b e => by cases e; omega)
      have hlm : ks.length = ms.length := (unhide HPM).length_eq
      rw [hlm] at o2
      have HO2 := hide o2
      have HB2 := hide B2
      have HPV : Hid (∀ W, Below w2.heap.size w2 W → PollV W g k ms ∧ W.cell? ⟨w.heap.size, 0, none⟩ = some (.map (some g))) := fun W hbW => by
       have B := B2.trans (hbW.mono B2.size)
       exact ⟨⟨D, (unhide HO).kept (grown_of_below B (Nat.le_refl _)) (by simp), unhide HPD⟩, (B.cell zB).trans (unhide HCB)⟩
      have h8 : ∀ q ∈ ms, (encQ q).length = 8 := fun q hq => encQ_len (unhide HPD).adr ⟨q, hq⟩
      have HAD := hide (unhide HPD).adr
      have HF8 := hide (fun j q hj i hi => flatQ_at ms j i q h8 hj hi)
      generalize ks.length = N at *
      have hblk2 : blk < w2.heap.size := ((unhide HO2).lt blk rfl).2
      obtain ⟨i1, hi1, hy0, hy1, hy2⟩ := info_parts infoVote
      have hN31 : N ≤ 31 := hlk
      have hz2s : W0.heap.size ≤ w2.heap.size := (unhide HB2).size
      clear HST hm1 hm2 o2 B2 g2 HKS h8 HPM hks
      go_wp2_with fail
      go_loopw [5, 23] (fun v i wr => ∃ (j : Nat) (t : Sl) (d : Nat → Path), j ≤ N ∧ i = .int .i64 j ∧ v = .slice t.a t.n t.c ∧ RowG vtK 97 wr w2.heap.size d p t ((ms.take j).map Prod.snd) ∧ Below w2.heap.size w2 wr) (fun _ i _ => N - (intOf i).toNat)
      case atStart => exact ⟨0, ⟨none, 0, 0⟩, fun _ => [], Nat.zero_le _, rfl, rfl, RowG.nil _ _ _ _ _ _, Below.refl _ _⟩
      case round =>
       obtain ⟨j, t, d, hj, rfl, rfl, hrow, hb2⟩ := hrel
       by_cases hlt : j < N
       · obtain ⟨q, hq⟩ : ∃ q, ms[j]? = some q := ⟨_, List.getElem?_eq_getElem (by omega)⟩
         have hqm := List.mem_of_getElem? hq
         obtain ⟨ax, bx⟩ := (unhide HAD) q hqm
         have hcl : ∀ i, i < 8 → wr.cell? ⟨blk, j * 8 + i, none⟩ = (encQ q)[i]? := fun i hi => by
          rw [hb2.cell hblk2, (unhide HO2).cellAt (j * 8 + i) (by omega)]
          exact (unhide HF8) j q hq i hi
         obtain ⟨pq, sq, tq, aq⟩ := q
         simp only at ax bx
         obtain ⟨a0, a1, a2, a3, rfl, r0, r1, r2, r3⟩ := adr_four ax
         obtain ⟨a4, a5, a6, a7, rfl, r4, r5, r6, r7⟩ := adr_four bx
         have hka := keyOf_ballot r0 r1 r2 r3 r4 r5 r6 r7
         have c0 := hcl 0 (by decide)
         have c1 := hcl 1 (by decide)
         have c2 := hcl 2 (by decide)
         have c3 := hcl 3 (by decide)
         have c4 := hcl 4 (by decide)
         have c5 := hcl 5 (by decide)
         have c6 := hcl 6 (by decide)
         have c7 := hcl 7 (by decide)
         replace c0 : wr.cell? ⟨blk, j * 8, none⟩ = some (.int .u8 a0) := c0
         replace c1 : wr.cell? ⟨blk, j * 8 + 1, none⟩ = some (.int .u8 a1) := c1
         replace c2 : wr.cell? ⟨blk, j * 8 + 2, none⟩ = some (.int .u8 a2) := c2
         replace c3 : wr.cell? ⟨blk, j * 8 + 3, none⟩ = some (.int .u8 a3) := c3
         replace c4 : wr.cell? ⟨blk, j * 8 + 4, none⟩ = some (.int .u8 a4) := c4
         replace c5 : wr.cell? ⟨blk, j * 8 + 5, none⟩ = some (.int .u8 a5) := c5
         replace c6 : wr.cell? ⟨blk, j * 8 + 6, none⟩ = some (.int .u8 a6) := c6
         replace c7 : wr.cell? ⟨blk, j * 8 + 7, none⟩ = some (.int .u8 a7) := c7
         have kk := SBlk.new wr #[.int .u8 a0, .int .u8 a1, .int .u8 a2, .int .u8 a3, .int .u8 a4, .int .u8 a5, .int .u8 a6, .int .u8 a7] 117
         have bk := below_alloc wr (.cells #[.int .u8 a0, .int .u8 a1, .int .u8 a2, .int .u8 a3, .int .u8 a4, .int .u8 a5, .int .u8 a6, .int .u8 a7] 117)
         obtain ⟨W1, e1⟩ : ∃ W, wr.alloc (.cells #[.int .u8 a0, .int .u8 a1, .int .u8 a2, .int .u8 a3, .int .u8 a4, .int .u8 a5, .int .u8 a6, .int .u8 a7] 117) = W := ⟨_, rfl⟩
         rw [e1] at kk bk
         obtain ⟨kb, ekb⟩ : ∃ kb, kb = wr.heap.size := ⟨_, rfl⟩
         rw [← ekb] at kk
         have hs2 := hb2.size
         have HS : Hid (∀ W, Below W1.heap.size W1 W → (fun W => W.cell? ⟨w.heap.size, 0, none⟩ = some (.map (some g)) ∧ W.cell? ⟨kb, 0, none⟩ = some (.int .u8 a0) ∧ W.cell? ⟨kb, 1, none⟩ = some (.int .u8 a1) ∧ W.cell? ⟨kb, 2, none⟩ = some (.int .u8 a2) ∧ W.cell? ⟨kb, 3, none⟩ = some (.int .u8 a3) ∧ W.cell? ⟨kb, 4, none⟩ = some (.int .u8 a4) ∧ W.cell? ⟨kb, 5, none⟩ = some (.int .u8 a5) ∧ W.cell? ⟨kb, 6, none⟩ = some (.int .u8 a6) ∧ W.cell? ⟨kb, 7, none⟩ = some (.int .u8 a7) ∧ (Instr.lookup 106 (.map (some g)) (.agg #[.int .u8 a0, .int .u8 a1, .int .u8 a2, .int .u8 a3, .int .u8 a4, .int .u8 a5, .int .u8 a6, .int .u8 a7]) false).run Tryz.prog W = .ok (.agg #[.int .i64 pq, .bool aq]) W) W) := fun W hbW => by
          have kw := kk.below hbW kk.lt
          obtain ⟨⟨D', hD', hpd'⟩, hcB⟩ := (unhide HPV) W (hb2.trans ((bk.trans (hbW.mono bk.size)).mono hs2))
          exact ⟨hcB, kw.cell 0, kw.cell 1, kw.cell 2, kw.cell 3, kw.cell 4, kw.cell 5, kw.cell 6, kw.cell 7, look_at hD' hpd' hqm hka⟩
         have HR1 : Hid (∀ W, Below W1.heap.size W1 W → BRow W (some ⟨kb, 0, none⟩) 4 [a0, a1, a2, a3] ∧ BRow W (some ⟨kb, 4, none⟩) 4 [a4, a5, a6, a7]) := fun W hbW => by
          obtain ⟨_, k0, k1, k2, k3, k4, k5, k6, k7, _⟩ := (unhide HS) W hbW
          refine ⟨⟨rfl, ax.2, (fun e => by cases e), fun x hx i hi => ?_⟩, ⟨rfl, bx.2, (fun e => by cases e), fun x hx i hi => ?_⟩⟩
          · cases hx
            rw [add_none, Nat.zero_add]
            rcases (by omega : i = 0 ∨ i = 1 ∨ i = 2 ∨ i = 3) with r | r | r | r <;> subst r
            · exact k0
            · exact k1
            · exact k2
            · exact k3
          · cases hx
            rw [add_none]
            rcases (by omega : i = 0 ∨ i = 1 ∨ i = 2 ∨ i = 3) with r | r | r | r <;> subst r
            · exact k4
            · exact k5
            · exact k6
            · exact k7
         have HC1 := hide (fun (W : World) (hbW : Below W1.heap.size W1 W) => clone_any (some ⟨kb, 0, none⟩) 4 4 [a0, a1, a2, a3] W ((unhide HR1) W hbW).1 (by decide))
         have HC2 := hide (fun (W : World) (hbW : Below W1.heap.size W1 W) => clone_any (some ⟨kb, 4, none⟩) 4 4 [a4, a5, a6, a7] W ((unhide HR1) W hbW).2 (by decide))
         obtain ⟨hn1, es, hn2, hn3, hn4, hn5⟩ := hrow
         have HOB : Hid (∀ b, (Value.slice t.a t.n t.c).ownBlock = some b → w2.heap.size ≤ b ∧ b < wr.heap.size) := fun b hb => hn3.lt b hb
         have hww : w.heap.size < w2.heap.size := by omega
         have HS5 : Hid (∀ WA W5, Below W1.heap.size W1 WA → WA.grownBy W5 (Value.slice t.a t.n t.c).ownBlock → (fun W => W.cell? ⟨w.heap.size, 0, none⟩ = some (.map (some g)) ∧ W.cell? ⟨kb, 0, none⟩ = some (.int .u8 a0) ∧ W.cell? ⟨kb, 1, none⟩ = some (.int .u8 a1) ∧ W.cell? ⟨kb, 2, none⟩ = some (.int .u8 a2) ∧ W.cell? ⟨kb, 3, none⟩ = some (.int .u8 a3) ∧ W.cell? ⟨kb, 4, none⟩ = some (.int .u8 a4) ∧ W.cell? ⟨kb, 5, none⟩ = some (.int .u8 a5) ∧ W.cell? ⟨kb, 6, none⟩ = some (.int .u8 a6) ∧ W.cell? ⟨kb, 7, none⟩ = some (.int .u8 a7) ∧ (Instr.lookup 106 (.map (some g)) (.agg #[.int .u8 a0, .int .u8 a1, .int .u8 a2, .int .u8 a3, .int .u8 a4, .int .u8 a5, .int .u8 a6, .int .u8 a7]) false).run Tryz.prog W = .ok (.agg #[.int .i64 pq, .bool aq]) W) W5) := fun WA W5 hbW hgr => by
          obtain ⟨k9, k0, k1, k2, k3, k4, k5, k6, k7, _⟩ := (unhide HS) WA hbW
          obtain ⟨⟨D', hD', hpd'⟩, hcB⟩ := (unhide HPV) WA (hb2.trans ((bk.trans (hbW.mono bk.size)).mono hs2))
          have n1 : ∀ i, some (⟨kb, i, none⟩ : Addr).block ≠ (Value.slice t.a t.n t.c).ownBlock := fun i e => by have := (hn3.lt _ e.symm).2; simp only at this; omega
          have n2 : some w.heap.size ≠ (Value.slice t.a t.n t.c).ownBlock := fun e => by have := (hn3.lt _ e.symm).1; omega
          have n3 : some g ≠ (Value.slice t.a t.n t.c).ownBlock := fun e => by have := (hn3.lt _ e.symm).1; omega
          exact ⟨hgr.cell k9 n2, hgr.cell k0 (n1 0), hgr.cell k1 (n1 1), hgr.cell k2 (n1 2), hgr.cell k3 (n1 3), hgr.cell k4 (n1 4), hgr.cell k5 (n1 5), hgr.cell k6 (n1 6), hgr.cell k7 (n1 7), look_at (hD'.kept hgr n3) hpd' hqm hka⟩
         have HBK := hide bk
         have HKB := hide ekb
         have HQ := hide hq
         have HB2' := hide hb2
         have HAX := hide (And.intro ax.2 bx.2)
         have HRW := hide (And.intro hn1 (And.intro hn2 (And.intro hn3 (And.intro hn4 hn5))))
         have E1 := hide e1
         have S0 := (unhide HS) W1 (Below.refl _ _)
         have i1' : (0 : Int) ≤ (j : Int) := by omega
         have i2' : (j : Int) < (N : Int) := by omega
         have fS := fldS1
         have ht31 : t.n ≤ 31 := by rw [hn1, List.length_map, List.length_take]; omega
         have hwk : w2.heap.size ≤ W1.heap.size := Nat.le_trans hs2 bk.size
         clear hcl hka kk bk hq hqm ax bx r0 r1 r2 r3 r4 r5 r6 r7 hn1 hn2 hn3 hn4 hn5 hb2 e1 ekb S0
         go_wp2_with (rw [unhide E1])
         rw [← unhide HKB]
         have S0 := (unhide HS) W1 (Below.refl _ _)
         refine wp_region_held_drew (S := (fun W => W.cell? ⟨w.heap.size, 0, none⟩ = some (.map (some g)) ∧ W.cell? ⟨kb, 0, none⟩ = some (.int .u8 a0) ∧ W.cell? ⟨kb, 1, none⟩ = some (.int .u8 a1) ∧ W.cell? ⟨kb, 2, none⟩ = some (.int .u8 a2) ∧ W.cell? ⟨kb, 3, none⟩ = some (.int .u8 a3) ∧ W.cell? ⟨kb, 4, none⟩ = some (.int .u8 a4) ∧ W.cell? ⟨kb, 5, none⟩ = some (.int .u8 a5) ∧ W.cell? ⟨kb, 6, none⟩ = some (.int .u8 a6) ∧ W.cell? ⟨kb, 7, none⟩ = some (.int .u8 a7) ∧ (Instr.lookup 106 (.map (some g)) (.agg #[.int .u8 a0, .int .u8 a1, .int .u8 a2, .int .u8 a3, .int .u8 a4, .int .u8 a5, .int .u8 a6, .int .u8 a7]) false).run Tryz.prog W = .ok (.agg #[.int .i64 pq, .bool aq]) W)) (by kernel_rfl) ((unhide HS) _ (Below.refl W1.heap.size W1).drew) (fun hHeld => ?_)
         refine wpAnyH_take (i := 0) (oi := _) (v := ?_) rfl (by kernel_rfl) (by kernel_rfl) (by kernel_rfl) (fun _ _ _ h => h) (Or.inl ⟨by kernel_rfl, ?_⟩) (by assumption) ?_
         rotate_left
         · ((intro wq hSw; (try dsimp only at hSw); go_simp) <;> with_reducible rfl)
         (try simp only [List.getElem_toArray, List.getElem_cons_zero, List.getElem_cons_succ, Act.put, List.setIfInBounds_toArray, List.set_cons_zero, List.set_cons_succ]); (try dsimp only)
         refine wpAnyH_take (i := 1) (oi := _) (v := ?_) rfl (by kernel_rfl) (by kernel_rfl) (by kernel_rfl) (fun _ _ _ h => h) (Or.inl ⟨by kernel_rfl, ?_⟩) (by assumption) ?_
         rotate_left
         · ((intro wq hSw; (try dsimp only at hSw); go_simp) <;> with_reducible rfl)
         (try simp only [List.getElem_toArray, List.getElem_cons_zero, List.getElem_cons_succ, Act.put, List.setIfInBounds_toArray, List.set_cons_zero, List.set_cons_succ]); (try dsimp only)
         refine wpAnyH_take (i := 2) (oi := _) (v := ?_) rfl (by kernel_rfl) (by kernel_rfl) (by kernel_rfl) (fun _ _ _ h => h) (Or.inl ⟨by kernel_rfl, ?_⟩) (by assumption) ?_
         rotate_left
         · ((intro wq hSw; (try dsimp only at hSw); go_simp) <;> with_reducible rfl)
         (try simp only [List.getElem_toArray, List.getElem_cons_zero, List.getElem_cons_succ, Act.put, List.setIfInBounds_toArray, List.set_cons_zero, List.set_cons_succ]); (try dsimp only)
         refine wpAnyH_take (i := 4) (oi := _) (v := ?_) rfl (by kernel_rfl) (by kernel_rfl) (by kernel_rfl) (fun _ _ _ h => h) (Or.inl ⟨by kernel_rfl, ?_⟩) (by assumption) ?_
         rotate_left
         · ((intro wq hSw; (try dsimp only at hSw); go_simp) <;> with_reducible rfl)
         (try simp only [List.getElem_toArray, List.getElem_cons_zero, List.getElem_cons_succ, Act.put, List.setIfInBounds_toArray, List.set_cons_zero, List.set_cons_succ]); (try dsimp only)
         refine wpAnyH_take (i := 5) (oi := _) (v := ?_) rfl (by kernel_rfl) (by kernel_rfl) (by kernel_rfl) (fun _ _ _ h => h) (Or.inl ⟨by kernel_rfl, ?_⟩) (by assumption) ?_
         rotate_left
         · ((intro wq hSw; (try dsimp only at hSw); go_simp) <;> with_reducible rfl)
         (try simp only [List.getElem_toArray, List.getElem_cons_zero, List.getElem_cons_succ, Act.put, List.setIfInBounds_toArray, List.set_cons_zero, List.set_cons_succ]); (try dsimp only)
         refine wpAnyH_take (i := 7) (oi := _) (v := ?_) rfl (by kernel_rfl) (by kernel_rfl) (by kernel_rfl) (fun _ _ _ h => h) (Or.inl ⟨by kernel_rfl, ?_⟩) (by assumption) ?_
         rotate_left
         · ((intro wq hSw; (try dsimp only at hSw); go_simp) <;> with_reducible rfl)
         (try simp only [List.getElem_toArray, List.getElem_cons_zero, List.getElem_cons_succ, Act.put, List.setIfInBounds_toArray, List.set_cons_zero, List.set_cons_succ]); (try dsimp only)
         refine wpAnyH_take (i := 8) (oi := _) (v := ?_) rfl (by kernel_rfl) (by kernel_rfl) (by kernel_rfl) (fun _ _ _ h => h) (Or.inl ⟨by kernel_rfl, ?_⟩) (by assumption) ?_
         rotate_left
         · ((intro wq hSw; (try dsimp only at hSw); go_simp) <;> with_reducible rfl)
         (try simp only [List.getElem_toArray, List.getElem_cons_zero, List.getElem_cons_succ, Act.put, List.setIfInBounds_toArray, List.set_cons_zero, List.set_cons_succ]); (try dsimp only)
         refine wpAnyH_take (i := 9) (oi := _) (v := ?_) rfl (by kernel_rfl) (by kernel_rfl) (by kernel_rfl) (fun _ _ _ h => h) (Or.inl ⟨by kernel_rfl, ?_⟩) (by assumption) ?_
         rotate_left
         · ((intro wq hSw; (try dsimp only at hSw); go_simp) <;> with_reducible rfl)
         (try simp only [List.getElem_toArray, List.getElem_cons_zero, List.getElem_cons_succ, Act.put, List.setIfInBounds_toArray, List.set_cons_zero, List.set_cons_succ]); (try dsimp only)
         refine wpAnyH_take (i := 10) (oi := _) (v := ?_) rfl (by kernel_rfl) (by kernel_rfl) (by kernel_rfl) (fun _ _ _ h => h) (Or.inl ⟨by kernel_rfl, ?_⟩) (by assumption) ?_
         rotate_left
         · ((intro wq hSw; (try dsimp only at hSw); go_simp) <;> with_reducible rfl)
         (try simp only [List.getElem_toArray, List.getElem_cons_zero, List.getElem_cons_succ, Act.put, List.setIfInBounds_toArray, List.set_cons_zero, List.set_cons_succ]); (try dsimp only)
         refine rdA 3 (fun K hK => ?_)
         go_simp
         go_at_call 74
         refine ((unhide HC1) _ (Below.refl W1.heap.size W1).drew).mono ?_
         rintro r w3 ⟨x1, y1, rfl, o3, b3⟩
         have J3 : Below W1.heap.size W1 w3 := Below.trans (Below.refl W1.heap.size W1).drew (b3.mono (Nat.le_refl _))
         have H3 := hide (ownsRow_base (B' := W1.heap.size) o3 (Nat.le_refl _))
         clear o3 b3
         refine hK.out _ _ ((unhide HS) _ J3) (fun hHeld => ?_)
         clear hK K
         (try simp only [List.getElem_toArray, List.getElem_cons_zero, List.getElem_cons_succ, Act.put, List.setIfInBounds_toArray, List.set_cons_zero, List.set_cons_succ]); (try dsimp only)
         refine rdA 6 (fun K hK => ?_)
         go_simp
         go_at_call 74
         refine ((unhide HC2) _ J3).mono ?_
         rintro r w4 ⟨x2, y2, rfl, o4, b4⟩
         have J4 : Below W1.heap.size W1 w4 := J3.trans (b4.mono J3.size)
         have z4 : W1.heap.size ≤ w4.heap.size := J4.size
         have R4 := hide (own_below (unhide HRW).2.2.1 ((unhide HBK).trans (J4.mono (unhide HBK).size)) (Nat.le_refl _))
         have H4 := hide (And.intro o4 b4)
         clear o4 b4
         refine hK.out _ _ ((unhide HS) _ J4) (fun hHeld => ?_)
         clear hK K
         (try simp only [List.getElem_toArray, List.getElem_cons_zero, List.getElem_cons_succ, Act.put, List.setIfInBounds_toArray, List.set_cons_zero, List.set_cons_succ]); (try dsimp only)
         refine wpAnyH_take (i := 11) (oi := _) (v := ?_) rfl (by kernel_rfl) (by kernel_rfl) (by kernel_rfl) (fun _ _ _ h => h) (Or.inl ⟨by kernel_rfl, ?_⟩) (by assumption) ?_
         rotate_left
         · ((intro wq hSw; (try dsimp only at hSw); go_simp) <;> with_reducible rfl)
         (try simp only [List.getElem_toArray, List.getElem_cons_zero, List.getElem_cons_succ, Act.put, List.setIfInBounds_toArray, List.set_cons_zero, List.set_cons_succ]); (try dsimp only)
         refine rdA 12 (fun K hK => ?_)
         go_simp
         refine hK.out _ _ ((unhide HS) _ (J4.alloc z4 _)) (fun hHeld => ?_)
         clear hK K
         (try simp only [List.getElem_toArray, List.getElem_cons_zero, List.getElem_cons_succ, Act.put, List.setIfInBounds_toArray, List.set_cons_zero, List.set_cons_succ]); (try dsimp only)
         refine rdA 13 (fun K hK => ?_)
         refine step_append_lies _ (by rfl) (.tmp 27) (.tmp 39) 35 (by rfl) w2.heap.size 97 i1 (.agg #[.slice none 0 0, .slice none 0 0, .bool false]) 3 56 Tryz.underlying35 hi1 hy0 hy1 hy2 rfl (by decide) _ _ _ (by rfl) (by first | exact (unhide R4).alloc _ | exact ((unhide R4).alloc _).drew) ⟨w4.heap.size, 0, none⟩ 1 1 [.slice x1 4 y1, .slice x2 4 y2, .bool aq] (by rfl) rfl (by exact three_new _ _ _ _ _) (by simp [Value.oneCell']) (by omega) (by unfold maxLen; omega) (by omega) (by simp; omega) _ rfl ?_
         intro g2 cap2 W5 hown5 hgrow5 hat5 hlt5
         have S5 := (unhide HS5) _ W5 (by first | exact J4.alloc z4 _ | exact (J4.alloc z4 _).drew) hgrow5
         refine hK.out _ _ (S5) (fun hHeld => ?_)
         clear hK K
         (try simp only [List.getElem_toArray, List.getElem_cons_zero, List.getElem_cons_succ, Act.put, List.setIfInBounds_toArray, List.set_cons_zero, List.set_cons_succ]); (try dsimp only)
         refine wpAnyH_take (i := 14) (oi := _) (v := ?_) rfl (by kernel_rfl) (by kernel_rfl) (by kernel_rfl) (fun _ _ _ h => h) (Or.inl ⟨by kernel_rfl, ?_⟩) (by assumption) ?_
         rotate_left
         · ((intro wq hSw; (try dsimp only at hSw); go_simp) <;> with_reducible rfl)
         (try simp only [List.getElem_toArray, List.getElem_cons_zero, List.getElem_cons_succ, Act.put, List.setIfInBounds_toArray, List.set_cons_zero, List.set_cons_succ]); (try dsimp only)
         refine wpAnyH_done (by kernel_rfl) ?_ _
         obtain ⟨d', hrow'⟩ := vtG_snoc (T := 97) (s := t) (p := p) (d := d) (es := es) (xs := (ms.take j).map Prod.snd) (wr := wr) (WW := W1) (W1 := w3) (W2 := w4) (W3 := W5) (q := aq) (z1 := [a0, a1, a2, a3]) (z2 := [a4, a5, a6, a7]) hs2 (unhide HRW).1 (unhide HRW).2.1 (unhide HRW).2.2.2.1 (fun x hx => ((unhide HOB) x.block (by rw [hx]; rfl)).2) (unhide HRW).2.2.2.2 (unhide HBK) (unhide HAX).1 (unhide HAX).2 (unhide H3) J3 (unhide H4).1 (unhide H4).2 (by first | exact below_alloc w4 _ | exact (below_alloc w4 _).drew) hown5 hgrow5 hat5
         have hB5 : Below w2.heap.size w2 W5 := Below.grown (by first | exact ((unhide HB2').trans (((unhide HBK).trans (J4.mono (unhide HBK).size)).mono hs2)).alloc (by omega) _ | exact (((unhide HB2').trans (((unhide HBK).trans (J4.mono (unhide HBK).size)).mono hs2)).alloc (by omega) _).drew) hgrow5 (by simp; omega) (fun b e => ((unhide HOB) b e).1)
         have htk : (ms.take (j + 1)).map Prod.snd = (ms.take j).map Prod.snd ++ [([a0, a1, a2, a3], [a4, a5, a6, a7], aq)] := by
          obtain ⟨hj', ej⟩ := List.getElem?_eq_some_iff.1 (unhide HQ)
          rw [List.take_succ_eq_append_getElem hj', List.map_append, ej]
          rfl
         rw [← htk] at hrow'
         have HR5 := hide hrow'
         have HB5 := hide hB5
         clear hrow' hB5 hown5 hgrow5 hat5 hlt5 S5 J3 J4 H3 H4 R4 htk
         go_wp2_with fail
         go_roundw
         case rel => exact ⟨j + 1, ⟨some ⟨g2, 0, none⟩, t.n + 1, cap2⟩, d', by omega, by go_num, rfl, unhide HR5, unhide HB5⟩
         case measure => simp [intOf]; omega
       · obtain rfl : j = N := by omega
         rw [List.take_of_length_le (by omega)] at hrow
         have HRW := hide hrow
         have HB3 := hide hb2
         clear hrow hb2
         go_wp2_with fail
         go_ret
         have B3 := (unhide HB2).trans ((unhide HB3).mono (unhide HB2).size)
         exact ⟨⟨t, d, rfl, RowPart.base (unhide HRW).own (by have := (unhide BA).size; omega)⟩, (unhide BA).trans (B3.mono (unhide BA).size)⟩
  · intro x c kl ya yb w1 cnt1 hkey hlx hv hat hrg1 hlt hg1 hs1 hen
    obtain ⟨z0, z1, z2, z3, x0, x1, x2, x3⟩ := x
    obtain ⟨pl, bb⟩ := c
    simp only [Key8.val, Std2.val] at hkey hlx hv hat hrg1 hlt hg1 hs1 hen ⊢
    have hb1 : Below W0.heap.size W0 w1 := hbr.grown hg1 hbr.size (fun q e => by cases e; exact Nat.le_refl _)
    obtain ⟨_, _, _, _, _, _, _, _, ek, el, za, xa⟩ := key_inv hkey
    simp only [Value.agg.injEq, Array.mk.injEq, List.cons.injEq, Value.int.injEq, true_and, and_true] at ek
    obtain ⟨rfl, rfl, rfl, rfl, rfl, rfl, rfl, rfl⟩ := ek
    subst el
    have hin : ([z0, z1, z2, z3], [x0, x1, x2, x3]) ∈ pvKeys L := by
     have h1 := Maps.has_true_of_atKey hat
     rw [(unhide HPD).has _ _ za xa] at h1
     simpa using h1
    obtain ⟨q, hq, eq1, eq2⟩ := pv_of_key hin
    have hkl := ballotLaw.key hkey
    rw [← eq1, ← eq2] at hkl hlx hrg1
    have hst := gone_step (unhide HPD).nodup (unhide HPD).adr hq hkl hlx
    have hqe : encQ q = [.int .u8 z0, .int .u8 z1, .int .u8 z2, .int .u8 z3, .int .u8 x0, .int .u8 x1, .int .u8 x2, .int .u8 x3] := by unfold encQ; rw [eq1, eq2]; rfl
    have hk1 := hks.kept hg1 (.inr (fun e => by cases hd : (Value.slice da ks.length dc).ownBlock with
     | none => rw [hd] at e; cases e
     | some b => rw [hd] at e; have := (hks.lt b hd).1; have := Option.some.inj e; omega))
    have hsz1 := hb1.size
    have hw1 : W0.heap.size < w1.heap.size := Nat.lt_of_lt_of_le hwl hg1.size
    have hlen : ks.length ≤ 31 := by
     have h1 := hpm.length_eq
     have h2 : (pvGone L left).length ≤ L.length := List.length_filter_le _ _
     omega
    have HR1 := hide hrg1
    have HB1 := hide hb1
    have HR := hide (And.intro hrg hlt)
    have HST := hide (hst.trans (hpm.symm.append_right [q]))
    have HQE := hide hqe
    clear hkey hlx hat hrg1 hlt hb1 hrg hv hbr za xa hst hin hqe eq1 eq2 hkl hpm hks hq hs1
    go_wp2_with (at_builtin; refine wpList_append_own _ rfl _ _ 154 rfl (W0.heap.size + 1) 117 i0 _ 8 8 Tryz.underlying154 hi hz0 hz1 hz2 rfl (by decide) _ _ _ rfl ((hk1.alloc _).alloc _) ⟨w1.heap.size + 1, 0, none⟩ 1 1 [.int .u8 z0, .int .u8 z1, .int .u8 z2, .int .u8 z3, .int .u8 x0, .int .u8 x1, .int .u8 x2, .int .u8 x3] rfl rfl ?c1 ?c2 ?c3 ?c4 ?c5 ?_)
    case c1 =>
     have h8 := news8 (w1.alloc (.cells #[.int .u8 z0, .int .u8 z1, .int .u8 z2, .int .u8 z3, .int .u8 x0, .int .u8 x1, .int .u8 x2, .int .u8 x3] 117)) (.int .u8 z0) (.int .u8 z1) (.int .u8 z2) (.int .u8 z3) (.int .u8 x0) (.int .u8 x1) (.int .u8 x2) (.int .u8 x3) 117
     rw [show (w1.alloc (.cells #[.int .u8 z0, .int .u8 z1, .int .u8 z2, .int .u8 z3, .int .u8 x0, .int .u8 x1, .int .u8 x2, .int .u8 x3] 117)).heap.size = w1.heap.size + 1 from by simp] at h8
     exact h8
    case c2 => simp [Value.oneCell']
    case c3 => unfold maxLen; omega
    case c4 => omega
    case c5 => simp; omega
    intro v3 w3 o3 hgrow _
    obtain ⟨a3, c3, hv3⟩ := own_shape o3
    have hgr3 : (w1.alloc (.cells #[.int .u8 z0, .int .u8 z1, .int .u8 z2, .int .u8 z3, .int .u8 x0, .int .u8 x1, .int .u8 x2, .int .u8 x3] 117)).heap.size = w1.heap.size + 1 := by simp
    have hrow : ∀ b, (Value.slice da ks.length dc).ownBlock = some b → W0.heap.size + 1 ≤ b := fun b e => (hk1.lt b e).1
    have hR3 := (((unhide HR1).alloc (.cells #[.int .u8 z0, .int .u8 z1, .int .u8 z2, .int .u8 z3, .int .u8 x0, .int .u8 x1, .int .u8 x2, .int .u8 x3] 117)).alloc (.cells #[.int .u8 z0, .int .u8 z1, .int .u8 z2, .int .u8 z3, .int .u8 x0, .int .u8 x1, .int .u8 x2, .int .u8 x3] 117)).kept hgrow (fun e => by have := hrow g e.symm; omega) (fun e => by have := hrow _ e.symm; omega)
    have hB3 : Below W0.heap.size W0 w3 := (((unhide HB1).alloc (by omega) _).alloc (by simp; omega) _).grown hgrow (by simp; omega) (fun b e => by have := hrow b e; omega)
    have hw3 : W0.heap.size < w3.heap.size := Nat.lt_of_lt_of_le hw1 (Nat.le_trans (by simp; omega) hgrow.size)
    rw [hv3] at o3
    rw [hv3]
    have O3 : w3.ownsRow (W0.heap.size + 1) 117 8 (.slice a3 (ks ++ [q]).length c3) (ks ++ [q]).length ((ks ++ [q]).flatMap encQ) := by
     rw [List.length_append, List.flatMap_append, show List.flatMap encQ [q] = encQ q from by simp, unhide HQE]
     exact o3
    have HO3 := hide O3
    have HR3 := hide hR3
    have HB3 := hide hB3
    clear o3 O3 hR3 hB3 hgrow hk1 hrow hv3 hgr3
    go_wp2_with fail
    go_roundw
    case rel => exact ⟨_, cnt1, ks ++ [q], a3, c3, unhide HR3, by simp, unhide HO3, (unhide HST).symm, unhide HB3, hw3⟩
    case measure => rw [(unhide HR3).left_eq, (unhide HR).1.left_eq]; exact (unhide HR).2

set_option maxRecDepth 100000

/-- The two words of a lane. -/
def hiW (z : Nat) : Nat := z / 4294967296
def loW (z : Nat) : Nat := z % 4294967296

/-- A lane turned by n bits. -/
def rotL (a n : Nat) : Nat := a * 2 ^ n % 18446744073709551616 + a / 2 ^ (64 - n)

end Go.Proofs.YtdmcmlcmgbbclaaGreat
