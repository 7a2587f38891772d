/- What is proved here: what the program's copyLists answers: the same list in memory of its own, down to the bytes. -/
import Derived.Test.YtdmcmlcmgbbclaaGreatJ21
import Derived.Deep.RegionHeld3
import Derived.Test.YtdmcmlcmgbbclaaGreatJ5
import Derived.Test.YtdmcmlcmgbbclaaGreatJ18
import Derived.Laws.IdiomCopy
import Derived.Test.YtdmcmlcmgbbclaaGreatJ1
import Derived.Lib.Overlaps
import Derived.Lib.AppendZerosOnto
import Derived.Laws.Externs
import Derived.Shelf.RegionOpenPlain
import Derived.Deep.RegionLaw
import Derived.Lib.Walk
import Derived.Lib.SliceRun
import Derived.Lib.JoinLaws
import Derived.Laws.NewBlocks
import Derived.Maps.AppendAt
import Derived.WalkKit
import Derived.WalkSmall
import Derived.KernelRfl
import Derived.Lib.SlicesDelete
import Derived.Test.YtdmcmlcmgbbclaaGreatJ7
namespace Go.Proofs.YtdmcmlcmgbbclaaGreat
set_option linter.unusedVariables false
set_option linter.unusedSimpArgs false
open Go.RowKit
set_option maxRecDepth 100000

/-- A list whose first k slices are copied. -/
def PS (B : Nat) (wr : World) (d : Nat → Nat) (r c : Nat) (s : Sl) (zss : List (List Int)) (es : List Sl) (k : Nat) : Prop :=
 ∃ fs : List Sl, fs.length = zss.length ∧ wr.ownsRow B 29 1 (.slice s.a s.n s.c) s.n (fs.map Sl.v) ∧ (∀ g, (Value.slice s.a s.n s.c).ownBlock = some g → d g = r) ∧
  (∀ (i : Nat) (e : Sl) (z : List Int), i < k → fs[i]? = some e → zss[i]? = some z → CB wr B d (c + 3 * i) e z) ∧ ∀ i, k ≤ i → fs[i]? = es[i]?

theorem PS.cell {B : Nat} {wr : World} {d : Nat → Nat} {r c : Nat} {s : Sl} {zss : List (List Int)} {es : List Sl} {k : Nat} (h : PS B wr d r c s zss es k) (hn : s.n = zss.length) (hk : k < zss.length) {e : Sl} (he : es[k]? = some e) :
    ∃ g, s.a = some ⟨g, 0, none⟩ ∧ wr.cell? ⟨g, k, none⟩ = some (.slice e.a e.n e.c) ∧ wr.frozen? ⟨g, k, none⟩ = false ∧ B ≤ g ∧ g < wr.heap.size := by
 obtain ⟨fs, h1, h2, h3, h4, h5⟩ := h
 obtain ⟨g, cap, hv⟩ := own_some h2 (by omega)
 have hv2 := hv
 simp only [Value.slice.injEq] at hv2
 rw [hv] at h2
 refine ⟨g, hv2.1, ?_, h2.frozenAt k, own_lt h2 g rfl⟩
 rw [h2.cellAt k (by omega), List.getElem?_map, h5 k (Nat.le_refl _), he]
 rfl

theorem PS.step {B : Nat} {wr w2 : World} {d : Nat → Nat} {r c : Nat} {s : Sl} {zss : List (List Int)} {es : List Sl} {k g : Nat} (h : PS B wr d r c s zss es k) (hn : s.n = zss.length) (hk : k < zss.length) {z : List Int} (hz : zss[k]? = some z) (hr : ∀ i, r ≠ c + 3 * i)
    (hB : B ≤ wr.heap.size) (hg : s.a = some ⟨g, 0, none⟩) {a : Option Addr} {n c' : Nat} (hl : n = z.length) (hrg : ∀ x ∈ z, 0 ≤ x ∧ x ≤ 255) (ho : w2.ownsRow wr.heap.size 5 1 (.slice a n c') n (z.map (Value.int .u8))) (hb : Below wr.heap.size wr w2) :
    PS B (w2.setCell ⟨g, k, none⟩ (.slice a n c')) (fun q => if wr.heap.size ≤ q then c + 3 * k else d q) r c s zss es (k + 1) := by
 obtain ⟨fs, h1, h2, h3, h4, h5⟩ := h
 obtain ⟨sa, sn, sc⟩ := s
 simp only at hn hg h2 h3
 subst hg
 have hgl := own_lt h2 g rfl
 have hdg : ∀ q, q < wr.heap.size → (if wr.heap.size ≤ q then c + 3 * k else d q) = d q := fun q hq => if_neg (by omega)
 have h2' := own_below h2 hb (Nat.le_refl _)
 have st := h2'.stored k (.slice a n c')
 have hrow : (if wr.heap.size ≤ g then c + 3 * k else d g) = r := by rw [hdg g hgl.2]; exact h3 g rfl
 have on : OnlyD B (fun q => if wr.heap.size ≤ q then c + 3 * k else d q) (fun q => q = r) w2 (w2.setCell ⟨g, k, none⟩ (.slice a n c')) := OnlyD.grown st.2 (Nat.le_trans hB hb.size) (fun q e => by have := Option.some.inj e; subst this; exact ⟨hgl.1, hrow⟩)
 refine ⟨fs.set k ⟨a, n, c'⟩, by rw [List.length_set]; exact h1, by rw [List.map_set]; exact st.1, fun q hq => by have := Option.some.inj hq; subst this; exact hrow, fun i e y hi he hy => ?_, fun i hi => ?_⟩
 · rw [List.getElem?_set] at he
   by_cases hik : k = i
   · subst hik
     rw [if_pos rfl, if_pos (by omega)] at he
     obtain rfl := Option.some.inj he
     obtain rfl := Option.some.inj (hz.symm.trans hy)
     exact (CB.new (d := d) (j := c + 3 * k) hl hrg ho hB).only on (fun q => hr k q.symm)
   · rw [if_neg hik] at he
     exact (((h4 i e y (by omega) he hy).recol (d' := fun q => if wr.heap.size ≤ q then c + 3 * k else d q) hdg).below hb (Nat.le_refl _)).only on (fun q => hr i q.symm)
 · rw [List.getElem?_set, if_neg (by omega)]
   exact h5 i (by omega)

set_option maxHeartbeats 4000000 in
theorem copyLists_any (r c : Nat) (hr : ∀ i, r ≠ c + 3 * i) (a : Option Addr) (len cap : Nat) (zss : List (List Int)) (w : World) (h : BsRow w a len zss) (hl : len ≤ 1048576) (hz : ∀ z ∈ zss, z.length ≤ 1048576) :
    Calls Tryz.prog 104 #[.slice a len cap] w fun e w' => ∃ (s : Sl) (d : Nat → Nat), e = .returned (.slice s.a s.n s.c) ∧ CS w' w.heap.size d r c s zss ∧ Below w.heap.size w w' := by
 have hil := h.1
 have HBY := hide h.bytes
 have D1 := hide (cloneSS_any a len cap zss w h hl)
 have HL := hide hil
 have HZ := hide hz
 have HR := hide hr
 clear h hil hz hr
 go_enter Tryz.func104, Tryz.ntmps104
 go_wp2_with fail
 refine (unhide D1).mono ?_
 rintro e w2 ⟨a2, c2, es, rfl, hes, o2, hbr, b2⟩
 have P0 : PS w.heap.size w2 (fun _ => r) r c ⟨a2, len, c2⟩ zss es 0 := ⟨es, by rw [unhide HL]; exact hes, o2, fun _ _ => rfl, fun i e z hi => absurd hi (Nat.not_lt_zero _), fun i _ => rfl⟩
 have HP := hide P0
 have HBR := hide hbr
 have HB2 := hide b2
 clear D1 o2 b2 hbr P0
 go_wp2_with fail
 go_loopw [10] (fun i wr => ∃ (k : Nat) (d : Nat → Nat), k ≤ len ∧ i = .int .i64 k ∧ PS w.heap.size wr d r c ⟨a2, len, c2⟩ zss es k ∧ Below w.heap.size w wr) (fun i _ => len - (intOf i).toNat)
 case atStart => exact ⟨0, fun _ => r, Nat.zero_le _, rfl, unhide HP, unhide HB2⟩
 case round =>
  obtain ⟨k, d, hk, rfl, hps, hbr⟩ := hrel
  clear HP HB2
  by_cases hlt : k < len
  · have hkz : k < zss.length := by rw [unhide HL]; exact hlt
    obtain ⟨z, hit⟩ : ∃ z, zss[k]? = some z := ⟨_, List.getElem?_eq_getElem hkz⟩
    obtain ⟨e, hee⟩ : ∃ e, es[k]? = some e := ⟨_, List.getElem?_eq_getElem (by omega)⟩
    obtain ⟨g, hga, hcell, hfz, hgB, hgl⟩ := hps.cell (unhide HL).symm hkz hee
    simp only at hga
    subst hga
    have hrow := ((unhide HBR) k e z hee hit).below hbr (Nat.le_refl _)
    have hzl := (unhide HZ) z (List.mem_of_getElem? hit)
    have hel : z.length = e.n := hrow.1
    have DC := hide (clone_any e.a e.n e.c z wr hrow (by omega))
    have HST : Hid (∀ w2 a c', w2.ownsRow wr.heap.size 5 1 (.slice a e.n c') e.n (z.map (Value.int .u8)) → Below wr.heap.size wr w2 → (∃ u, w2.cell? ⟨g, k, none⟩ = some u) ∧ w2.frozen? ⟨g, k, none⟩ = false ∧ PS w.heap.size (w2.setCell ⟨g, k, none⟩ (.slice a e.n c')) (fun q => if wr.heap.size ≤ q then c + 3 * k else d q) r c ⟨some ⟨g, 0, none⟩, len, c2⟩ zss es (k + 1) ∧ Below w.heap.size w (w2.setCell ⟨g, k, none⟩ (.slice a e.n c'))) := fun w2 a c' ho hb => by
     refine ⟨⟨_, (hb.cell (p := ⟨g, k, none⟩) hgl).trans hcell⟩, ?_, hps.step (unhide HL).symm hkz hit (unhide HR) hbr.size rfl hel.symm ((unhide HBY) z (List.mem_of_getElem? hit)) ho hb, (hbr.trans (hb.mono hbr.size)).setCell (p := ⟨g, k, none⟩) hgB _⟩
     rw [World.frozen?_of_block (hb.block g hgl)]
     exact hfz
    have k1 : (0 : Int) ≤ (k : Int) := by omega
    have k2 : (k : Int) < (len : Int) := by omega
    have HB := hide hbr
    clear hps hbr hit hee hrow hel hzl hfz
    go_wp2_with fail
    refine (unhide DC).mono ?_
    rintro ev w3 ⟨a3, c3, rfl, o3, b3⟩
    obtain ⟨⟨u, hu⟩, hf, hP, hB3⟩ := (unhide HST) w3 a3 c3 o3 b3
    have HP := hide hP
    have HB3 := hide hB3
    clear HST DC o3 b3 hP hB3 hcell
    go_wp2_with fail
    go_roundw
    case rel => exact ⟨k + 1, _, by omega, by go_num, unhide HP, unhide HB3⟩
    case measure => simp [intOf]; omega
  · obtain rfl : k = len := by omega
    have hcs : CS wr w.heap.size d r c ⟨a2, k, c2⟩ zss := by
     obtain ⟨fs, h1, h2, h3, h4, h5⟩ := hps
     exact ⟨(unhide HL).symm, fs, h1, h2, h3, fun i e z he hz => h4 i e z (by have := (List.getElem?_eq_some_iff.1 hz).1; have := unhide HL; omega) he hz⟩
    have HC := hide hcs
    have HB := hide hbr
    clear hps hbr hcs
    go_wp2_with fail
    go_ret
    exact ⟨⟨a2, k, c2⟩, d, rfl, unhide HC, unhide HB⟩

set_option maxRecDepth 100000

theorem grown_cell (w : World) (g i : Nat) (u : Value) : w.grownBy (w.setCell ⟨g, i, none⟩ u) (some g) :=
 ⟨rfl, rfl, rfl, by simp [World.setCell], fun k _ hk => heap_setCell_other w ⟨g, i, none⟩ k u (fun e => hk (by rw [e]))⟩

theorem grown_cells (g : Nat) : ∀ (us : List Value) (o : Nat) (w : World), w.grownBy (w.setCells g o us) (some g)
 | [], o, w => ⟨rfl, rfl, rfl, Nat.le_refl _, fun _ _ _ => rfl⟩
 | u :: r, o, w => by rw [World.setCells]; exact grownP (grown_cell w g o u) (grown_cells g r (o + 1) _)

theorem setCells_row {g : Nat} {T : TypeId} : ∀ (us : List Value) (o : Nat) (w : World) (cur : Array Value), w.heap[g]? = some (.cells cur T (0, 0)) →
    ∃ cur' : Array Value, (w.setCells g o us).heap[g]? = some (.cells cur' T (0, 0)) ∧ cur'.toList = setL cur.toList o us
 | [], o, w, cur, h => ⟨cur, h, rfl⟩
 | u :: r, o, w, cur, h => by
  rw [World.setCells]
  obtain ⟨cur', h1, h2⟩ := setCells_row r (o + 1) _ _ (heap_setCell_same w g o cur T u h)
  refine ⟨cur', h1, ?_⟩
  rw [h2, Array.toList_setIfInBounds, setL]

/-- What lies at a place behind stores. -/
theorem setL_get (vs us : List Value) (o i : Nat) (h : o + us.length ≤ vs.length) : (setL vs o us)[i]? = if o ≤ i ∧ i < o + us.length then us[i - o]? else vs[i]? := by
 by_cases hi : o ≤ i ∧ i < o + us.length
 · rw [if_pos hi]
   obtain ⟨u, hu⟩ : ∃ u, us[i - o]? = some u := ⟨_, List.getElem?_eq_getElem (by omega)⟩
   have := setL_at us vs o (i - o) u hu (by omega)
   rw [show o + (i - o) = i by omega] at this
   rw [this, hu]
 · rw [if_neg hi]
   exact setL_other us vs o i (by omega)

/-- What is known of the block of a row that is owned. -/
theorem own_blk {w : World} {B g n c : Nat} {T : TypeId} {xs : List Value} (h : w.ownsRow B T 1 (.slice (some ⟨g, 0, none⟩) n c) n xs) : ∃ cur : Array Value, w.heap[g]? = some (.cells cur T (0, 0)) ∧ cur.size = c ∧ n ≤ c ∧ c ≤ maxLen ∧ B ≤ g ∧ xs.length = n ∧ ∀ i, i < n → cur.toList[i]? = xs[i]? := by
 rcases h.2 with ⟨h1, _⟩ | ⟨g', cap', cur0, h1, h2, h3, h4, h5, h6, h7⟩
 · simp at h1
 · simp only [Value.slice.injEq, Option.some.injEq, Addr.mk.injEq, and_true, true_and] at h1
   obtain ⟨rfl, rfl⟩ := h1
   have hl := h.1
   refine ⟨cur0, h3, by omega, h4, h5, h2, by omega, fun i hi => ?_⟩
   rw [← h7, List.getElem?_take, if_pos (by omega)]

/-- A list with one thing more at a place, cell by cell. -/
def putAt {α : Type} (xs : List α) (k : Nat) (v : α) : List α := xs.take k ++ [v] ++ xs.drop k

theorem putAt_length {α : Type} (xs : List α) (k : Nat) (v : α) (hk : k ≤ xs.length) : (putAt xs k v).length = xs.length + 1 := by
 unfold putAt
 simp
 omega

theorem putAt_get {α : Type} (xs : List α) (k i : Nat) (v : α) (hk : k ≤ xs.length) : (putAt xs k v)[i]? = if i < k then xs[i]? else if i = k then some v else xs[i - 1]? := by
 unfold putAt
 by_cases h1 : i < k
 · rw [if_pos h1, List.getElem?_append_left (by simp; omega), List.getElem?_append_left (by simp; omega), List.getElem?_take, if_pos h1]
 · rw [if_neg h1]
   by_cases h2 : i = k
   · rw [if_pos h2, List.getElem?_append_left (by simp; omega), List.getElem?_append_right (by simp; omega)]
     subst h2
     have : i - (List.take i xs).length = 0 := by simp; omega
     rw [this]
     rfl
   · rw [if_neg h2, List.getElem?_append_right (by simp; omega)]
     have : i - (List.take k xs ++ [v]).length = i - k - 1 := by simp; omega
     rw [this, List.getElem?_drop]
     congr 1
     omega

/-- A list without the thing at a place, cell by cell. -/
theorem cutAt_get {α : Type} (xs : List α) (k i : Nat) (hk : k < xs.length) : (xs.take k ++ xs.drop (k + 1))[i]? = if i < k then xs[i]? else xs[i + 1]? := by
 by_cases h1 : i < k
 · rw [if_pos h1, List.getElem?_append_left (by simp; omega), List.getElem?_take, if_pos h1]
 · rw [if_neg h1, List.getElem?_append_right (by simp; omega), List.getElem?_drop]
   congr 1
   simp
   omega

set_option maxRecDepth 100000

theorem infoBs : (Tryz.prog.info? 29).map (fun i => (i.zero, i.size, i.bytes)) = some (some (.slice none 0 0), 1, 24) := by kernel_rfl
theorem sizeBs : (Tryz.prog.info? 29).map (·.size) = some 1 := by kernel_rfl

/-- A copy in a walk, by the equation of its run. -/
theorem at_copy (w : World) {ops : Array Oper} {rest : List Oper} {o : Oper} {a : Act} {Q : Exit → Act → World → Prop} (hgd : o.guard = none) (d s : Operand) (t t' : TypeId)
    (ho : o.op = .call { callee := .builtin .copy, args := #[d, s], argTypes := #[t, t'] }) (v u : Value) (hd : a.eval d = v) (hs : a.eval s = u) {v' : Value} {w' : World}
    (hr : (Builtin.copy_ #[t, t'] o.type #[v, u]).run Tryz.prog w = .ok v' w') (h : wpList Tryz.prog ops Q rest (a.put o.dst v') w') : wpList Tryz.prog ops Q (o :: rest) a w :=
 wpList_plain hgd fun _ hK => by
  unfold Oper.wp execOp
  simp only [ho, resolve, invoke, builtin, Sem.run_bind, Sem.run_pure, Result.andThen_ok, List.map_toArray, List.map_cons, List.map_nil, hd, hs, hr]
  exact hK _ _ h

/-- The same in a region that draws. -/
theorem step_copy {ops : Array Oper} {o : Oper} {a : Act} {w : World} {K : Act → World → Prop} {Q : Exit → Act → World → Prop} {E : Prop}
    (hg : o.guard = none) (d x : Operand) (dT sT : TypeId) (hop : o.op = Op.call { callee := Callee.builtin Builtin.copy, args := #[d, x], argTypes := #[dT, sT] })
    (v u : Value) (hd : a.eval d = v) (hx : a.eval x = u) {v' : Value} {w' : World} (hr : (Builtin.copy_ #[dT, sT] o.type #[v, u]).run Tryz.prog w = .ok v' w') (hK : K (a.put o.dst v') w') :
    if Region.wanted o (yielded ops a.tmps) = true then Oper.wp Tryz.prog o a w K Q else E := by
 have hw : Region.wanted o (yielded ops a.tmps) = true := by simp [Region.wanted, hg]
 rw [if_pos hw]
 unfold Oper.wp
 simp [execOp, hop, resolve, invoke, builtin, hd, hx, hr, Result.andThen]
 exact hK

theorem some_cells (b : Nat) (vs : List Value) (o : Nat) (w : World) (h : ∀ j, j < vs.length → (w.cell? ⟨b, o + j, none⟩).isSome = true) (k : Nat) (hk : (w.cell? ⟨b, k, none⟩).isSome = true) : ((w.setCells b o vs).cell? ⟨b, k, none⟩).isSome = true := by
 by_cases hin : o ≤ k ∧ k < o + vs.length
 · have := World.cell?_setCells_in b vs o w h (k - o) (by omega)
   rw [show o + (k - o) = k by omega] at this
   rw [this]; rfl
 · rw [World.cell?_setCells_out b vs o w ⟨b, k, none⟩ (fun _ _ => by show k < o ∨ o + vs.length ≤ k; omega)]
   exact hk

set_option maxHeartbeats 4000000 in
theorem insShift_any (g n c i vb vc : Nat) (xs : List Value) (v : Value) (w : World) (hi : i < n) (hroom : n + 1 ≤ c) (hc63 : c ≤ 9223372036854775807) (hvb : vb ≠ g) (hl : xs.length = n)
    (hcs : ∀ j u, xs[j]? = some u → w.cell? ⟨g, j, none⟩ = some u) (hsp : ∀ j, j < n + 1 → (w.cell? ⟨g, j, none⟩).isSome = true) (hfz : ∀ j, w.frozen? ⟨g, j, none⟩ = false)
    (hv : w.cell? ⟨vb, 0, none⟩ = some v) (h1c : ∀ u ∈ xs, u.oneCell' = true) (h1v : v.oneCell' = true)
    (tA tB : TypeId) (kA kB : Nat) (hsa : w.shape? vb = some (tA, kA)) (hsb : w.shape? g = some (tB, kB)) (hkB : kB ≠ 0) (hfa : w.frozen? ⟨vb, 0, none⟩ = false) (hfe : w.frozen? ⟨vb, kA, none⟩ = false) :
    Calls Tryz.prog 112 #[.slice (some ⟨g, 0, none⟩) n c, .int .i64 i, .slice (some ⟨vb, 0, none⟩) 1 vc] w fun e w' =>
     e = .returned (.slice (some ⟨g, 0, none⟩) (n + 1) c) ∧ w' = (w.drew.setCells g (i + 1) (xs.drop i)).setCells g i [v] := by
 have hz2 : ¬ ((i : Int) = (n : Int)) := by omega
 have mixed : Tryz.prog.follows .mixedOrders = true := by kernel_rfl
 have hov : ∀ lb cb, (callFunc 130 #[.slice (some ⟨vb, 0, none⟩) 1 vc, .slice (some ⟨g, i + 1, none⟩) lb cb]).run Tryz.prog w = .ok (.value (.bool false)) w := fun lb cb => by
  rw [run_callFunc_extern Tryz.func130 (by kernel_rfl) (by kernel_rfl) (by kernel_rfl) (e := Extern.SlicesOverlaps.overlaps #[24, 24] #[4]) (by kernel_rfl),
   Lib.run_overlaps_apart w 24 4 29 Tryz.underlying24 1 (fun w => by kernel_rfl) ⟨vb, 0, none⟩ ⟨g, i + 1, none⟩ 1 vc lb cb hvb tA tB kA kB hsa hsb hkB hfa hfe]
  rfl
 have hdl : (xs.drop i).length = n - i := by rw [List.length_drop, hl]
 have hw1 : IntKind.i64.wrap ((i : Int) + 1) = (i : Int) + 1 := by rw [IntKind.wrap_i64]; omega
 have hb1 : (0 : Int) ≤ (i : Int) + 1 := by omega
 have hin : i ≤ n := by omega
 have htn : ((i : Int) + 1).toNat = i + 1 := by omega
 have hb2 : ¬ (c = i + 1) := by omega
 have hb3 : (i : Int) ≤ (n : Int) + 1 := by omega
 have hb4 : ¬ (c = i) := by omega
 have hcp1 : ∀ ty dc sc, (Builtin.copy_ #[24, 24] ty #[.slice (some ⟨g, i + 1, none⟩) (n - i) dc, .slice (some ⟨g, i, none⟩) (n + 1 - i) sc]).run Tryz.prog w.drew = .ok (goInt (xs.drop i).length) (w.drew.setCells g (i + 1) (xs.drop i)) := fun ty dc sc =>
  run_copy_cells w.drew _ _ ty 29 g (i + 1) (n - i) dc ⟨g, i, none⟩ (n + 1 - i) sc (xs.drop i) Tryz.underlying24 sizeBs (by rw [hdl]; simp only [Nat.min_def]; split <;> omega)
   (fun j u hj => by rw [Addr.add_lit]; exact hcs (i + j) u (by rwa [List.getElem?_drop] at hj))
   (fun j hj => hsp (i + 1 + j) (by rw [hdl] at hj; omega)) (fun j hj => hfz _) (fun u hu => h1c u (List.mem_of_mem_drop hu))
 obtain ⟨W1, hW1⟩ : ∃ W1, W1 = w.drew.setCells g (i + 1) (xs.drop i) := ⟨_, rfl⟩
 have hsp1 : ∀ k, k < n + 1 → (W1.cell? ⟨g, k, none⟩).isSome = true := fun k hk => by
  rw [hW1]
  exact some_cells g (xs.drop i) (i + 1) w.drew (fun j hj => hsp (i + 1 + j) (by rw [hdl] at hj; omega)) k (hsp k hk)
 have hcp2 : ∀ (W : World), (∀ x, W.cell? x = W1.cell? x) → (∀ x, W.frozen? x = W1.frozen? x) → ∀ ty dc, (Builtin.copy_ #[24, 24] ty #[.slice (some ⟨g, i, none⟩) (n + 1 - i) dc, .slice (some ⟨vb, 0, none⟩) 1 vc]).run Tryz.prog W = .ok (goInt 1) (W.setCells g i [v]) := fun W hWc hWf ty dc =>
  run_copy_cells W _ _ ty 29 g i (n + 1 - i) dc ⟨vb, 0, none⟩ 1 vc [v] Tryz.underlying24 sizeBs (by simp only [Nat.min_def, List.length_cons, List.length_nil]; split <;> omega)
   (fun j u hj => by
    cases j with
    | zero =>
     simp at hj
     subst hj
     rw [Addr.add_lit, hWc, hW1, World.cell?_setCells_out g _ _ _ _ (fun h _ => absurd h hvb)]
     exact hv
    | succ j => simp at hj)
   (fun j hj => by rw [hWc]; exact hsp1 _ (by simp at hj; omega)) (fun j hj => by rw [hWf, hW1, World.frozen?_setCells]; exact hfz _) (fun u hu => by simp at hu; subst hu; exact h1v)
 rw [← hW1] at hcp1
 have hcs' := hide hcs
 clear hcs hl hsp hfz
 go_enter Tryz.func112, Tryz.ntmps112
 go_wp2_with (simp only [hov])
 go_region_law_o (refine step_copy rfl _ _ 24 24 rfl _ _ (by simp [Act.eval, Act.put]) (by simp [Act.eval, Act.put]) (hcp1 _ _ _) ?_)
 go_wp2_with (at_builtin; refine at_copy _ rfl _ _ 24 24 rfl _ _ rfl rfl (hcp2 _ (fun _ => rfl) (fun _ => rfl) _ _) ?_)
 go_ret
 first | exact ⟨rfl, rfl⟩ | exact ⟨rfl, by rw [hW1]⟩

set_option maxHeartbeats 4000000 in
theorem insEnd_any (B g n c vb vc : Nat) (xs : List Value) (v : Value) (w : World) (h : w.ownsRow B 29 1 (.slice (some ⟨g, 0, none⟩) n c) n xs) (hB : B ≤ w.heap.size) (hv : w.cell? ⟨vb, 0, none⟩ = some v) (h1v : v.oneCell' = true) (hn : n ≤ 100) :
    Calls Tryz.prog 112 #[.slice (some ⟨g, 0, none⟩) n c, .int .i64 n, .slice (some ⟨vb, 0, none⟩) 1 vc] w fun e w' =>
     ∃ v', e = .returned v' ∧ w'.ownsRow B 29 1 v' (n + 1) (xs ++ [v]) ∧ w.grownBy w' (some g) ∧ (v'.ownBlock = some g ∨ v'.ownBlock = some w.heap.size) := by
 obtain ⟨i0, hi, hz0, hz1, hz2⟩ := info_parts infoBs
 have HO := hide h
 clear h
 by_cases hcn : c = n
 · go_enter Tryz.func112, Tryz.ntmps112
   go_wp2_with (at_builtin; refine wpList_append_own_at _ rfl _ _ 24 rfl B 29 i0 (.slice none 0 0) 1 24 Tryz.underlying24 hi hz0 hz1 hz2 rfl (by decide) _ _ _ rfl (unhide HO) ⟨vb, 0, none⟩ 1 vc [v] rfl rfl ?c1 ?c2 ?c3 ?c4 ?c5 ?_)
   case c1 => intro j u hj; cases j with
    | zero => simp at hj; subst hj; exact hv
    | succ j => simp at hj
   case c2 => intro u hu; simp at hu; subst hu; exact h1v
   case c3 => unfold maxLen; omega
   case c4 => omega
   case c5 => omega
   intro v' w6 hown2 hgrow _ hblk
   have H2 := hide hown2
   have H3 := hide hgrow
   have H4 := hide hblk
   clear hown2 hgrow hblk
   go_wp2_with fail
   go_ret
   exact ⟨v', rfl, unhide H2, unhide H3, unhide H4⟩
 · go_enter Tryz.func112, Tryz.ntmps112
   go_wp2_with (at_builtin; refine wpList_append_own_at _ rfl _ _ 24 rfl B 29 i0 (.slice none 0 0) 1 24 Tryz.underlying24 hi hz0 hz1 hz2 rfl (by decide) _ _ _ rfl (unhide HO) ⟨vb, 0, none⟩ 1 vc [v] rfl rfl ?c1 ?c2 ?c3 ?c4 ?c5 ?_)
   case c1 => intro j u hj; cases j with
    | zero => simp at hj; subst hj; exact hv
    | succ j => simp at hj
   case c2 => intro u hu; simp at hu; subst hu; exact h1v
   case c3 => unfold maxLen; omega
   case c4 => omega
   case c5 => omega
   intro v' w6 hown2 hgrow _ hblk
   have H2 := hide hown2
   have H3 := hide hgrow
   have H4 := hide hblk
   clear hown2 hgrow hblk
   go_wp2_with fail
   go_ret
   exact ⟨v', rfl, unhide H2, unhide H3, unhide H4⟩

set_option maxHeartbeats 4000000 in
theorem insGrow_any (g n c i vb vc : Nat) (xs : List Value) (v : Value) (w : World) (hi : i < n) (hnc : n ≤ c) (hroom : c < n + 1) (hn : n ≤ 100) (hl : xs.length = n)
    (hcs : ∀ j u, xs[j]? = some u → w.cell? ⟨g, j, none⟩ = some u) (hv : w.cell? ⟨vb, 0, none⟩ = some v) (h1c : ∀ u ∈ xs, u.oneCell' = true) (h1v : v.oneCell' = true) :
    Calls Tryz.prog 112 #[.slice (some ⟨g, 0, none⟩) n c, .int .i64 i, .slice (some ⟨vb, 0, none⟩) 1 vc] w fun e w' =>
     e = .returned (.slice (some ⟨w.heap.size, 0, none⟩) (n + 1) (grownCap w (n + 1) c 29)) ∧
     w' = (((w.alloc (.cells ((xs.take i).toArray ++ Builtin.zeroCells (Value.slice none 0 0).cells (n + 1 - i) ++ Builtin.zeroCells (Value.slice none 0 0).cells (grownCap w (n + 1) c 29 - (n + 1))) 29)).drew.setCells w.heap.size i [v]).drew).setCells w.heap.size (i + 1) (xs.drop i) := by
 obtain ⟨i0, hi0, hz0, hzs, hzb⟩ := info_parts infoBs
 have mixed : Tryz.prog.follows .mixedOrders = true := by kernel_rfl
 have hz2 : ¬ ((i : Int) = (n : Int)) := by omega
 have hz3 : (c : Int) < (n : Int) + 1 := by omega
 have hbw : g < w.heap.size := block_lt_of_cell (hcs 0 _ (List.getElem?_eq_getElem (by omega)))
 have hvw : vb < w.heap.size := block_lt_of_cell hv
 have hkk : (n : Int) + 1 - (i : Int) = ((n + 1 - i : Nat) : Int) := by omega
 have hik : i + (n + 1 - i) = n + 1 := by omega
 have hbig : (n + 1) * 24 ≤ 140737488355328 := by omega
 have hold : (Builtin.firstCells i0.size i (.slice (some ⟨g, 0, none⟩) i c)).run Tryz.prog w.drew = .ok (xs.take i).toArray w.drew := by
  rw [hzs]
  exact run_firstCells_some w.drew 1 i ⟨g, 0, none⟩ i c (xs.take i) (by rw [List.length_take]; omega) (fun j u hj => by
   rw [Addr.add_lit, Nat.zero_add]
   rw [List.getElem?_take] at hj
   split at hj
   · exact hcs j u hj
   · cases hj)
 have hrz : ∀ ty, (Builtin.append_ #[24, 3] ty #[.slice (some ⟨g, 0, none⟩) i c, .int .i64 ((n : Int) + 1 - (i : Int))]).run Tryz.prog w =
     .ok (.slice (some ⟨w.heap.size, 0, none⟩) (n + 1) (grownCap w (n + 1) c 29)) (w.drew.alloc (.cells ((xs.take i).toArray ++ Builtin.zeroCells (Value.slice none 0 0).cells (n + 1 - i) ++ Builtin.zeroCells (Value.slice none 0 0).cells (grownCap w (n + 1) c 29 - (n + 1))) 29)) := fun ty => by
  have h := Lib.run_append_grow_zeros (P := Tryz.prog) w 24 3 ty 29 i0 (.slice none 0 0) .i64 .i64 Tryz.underlying24 Tryz.underlying3 hi0 hz0 (some ⟨g, 0, none⟩) i c (xs.take i) hold (n + 1 - i) (by omega) (by omega) (by omega) (by omega) (by rw [hzb]; omega) (by rw [hzb, hik]; exact growslice_fits hroom hbig)
  rw [hik] at h
  rw [hkk]
  exact h
 obtain ⟨G, hG⟩ : ∃ G, G = grownCap w (n + 1) c 29 := ⟨_, rfl⟩
 obtain ⟨ROW, hROW⟩ : ∃ ROW : Array Value, ROW = (xs.take i).toArray ++ Builtin.zeroCells (Value.slice none 0 0).cells (n + 1 - i) ++ Builtin.zeroCells (Value.slice none 0 0).cells (G - (n + 1)) := ⟨_, rfl⟩
 rw [← hG] at hrz ⊢
 rw [← hROW] at hrz ⊢
 have hRl : n + 1 ≤ ROW.size := by
  rw [hROW]
  simp [Builtin.zeroCells, Value.cells]
  omega
 obtain ⟨W1, hW1⟩ : ∃ W1, W1 = w.drew.alloc (.cells ROW 29) := ⟨_, rfl⟩
 rw [← hW1] at hrz
 have hN : ∀ j, j < n + 1 → (W1.cell? ⟨w.heap.size, j, none⟩).isSome = true := fun j hj => by
  rw [hW1, World.cell?_alloc_at (w := w.drew) ROW _ w.heap.size j rfl, Array.getElem?_eq_getElem (by omega)]; rfl
 have hNf : ∀ j, W1.frozen? ⟨w.heap.size, j, none⟩ = false := fun j => by rw [hW1]; exact World.frozen?_alloc_at (w := w.drew) ROW _ w.heap.size j rfl
 have hOb : ∀ j u, w.cell? ⟨g, j, none⟩ = some u → W1.cell? ⟨g, j, none⟩ = some u := fun j u h => by rw [hW1, World.cell?_alloc_past (w := w.drew) _ g j hbw]; exact h
 have hOv : ∀ j u, w.cell? ⟨vb, j, none⟩ = some u → W1.cell? ⟨vb, j, none⟩ = some u := fun j u h => by rw [hW1, World.cell?_alloc_past (w := w.drew) _ vb j hvw]; exact h
 have hcpA : ∀ (W : World), (∀ x, W.cell? x = W1.cell? x) → (∀ x, W.frozen? x = W1.frozen? x) → ∀ ty dc, (Builtin.copy_ #[24, 24] ty #[.slice (some ⟨w.heap.size, i, none⟩) (n + 1 - i) dc, .slice (some ⟨vb, 0, none⟩) 1 vc]).run Tryz.prog W = .ok (goInt 1) (W.setCells w.heap.size i [v]) := fun W hWc hWf ty dc =>
  run_copy_cells W _ _ ty 29 w.heap.size i (n + 1 - i) dc ⟨vb, 0, none⟩ 1 vc [v] Tryz.underlying24 sizeBs (by simp only [Nat.min_def, List.length_cons, List.length_nil]; split <;> omega)
   (fun j u hj => by
    cases j with
    | zero => simp at hj; subst hj; rw [Addr.add_lit, hWc]; exact hOv _ _ hv
    | succ j => simp at hj)
   (fun j hj => by rw [hWc]; exact hN _ (by simp at hj; omega)) (fun j hj => by rw [hWf]; exact hNf _) (fun u hu => by simp at hu; subst hu; exact h1v)
 have hGn : n + 1 ≤ G := by rw [hG]; exact grownCap_ge w _ _ _
 have hG63 : G ≤ 9223372036854775807 := by
  have := grownCap_le_maxLen w (n + 1) c 29 (by unfold maxLen; omega)
  rw [← hG] at this
  unfold maxLen at this
  omega
 have hGi : ¬ (G = i) := by omega
 have hGim : ¬ (G = i + 1) := by omega
 have hci : ¬ (c = i) := by omega
 have hbN : g ≠ w.heap.size := by omega
 have hdl : (xs.drop i).length = n - i := by rw [List.length_drop, hl]
 have hcpB : ∀ (W : World), (∀ x, W.cell? x = (W1.setCells w.heap.size i [v]).cell? x) → (∀ x, W.frozen? x = (W1.setCells w.heap.size i [v]).frozen? x) → ∀ ty dc sc, (Builtin.copy_ #[24, 24] ty #[.slice (some ⟨w.heap.size, i + 1, none⟩) (n - i) dc, .slice (some ⟨g, i, none⟩) (n - i) sc]).run Tryz.prog W = .ok (goInt (xs.drop i).length) (W.setCells w.heap.size (i + 1) (xs.drop i)) := fun W hWc hWf ty dc sc =>
  run_copy_cells W _ _ ty 29 w.heap.size (i + 1) (n - i) dc ⟨g, i, none⟩ (n - i) sc (xs.drop i) Tryz.underlying24 sizeBs (by rw [hdl]; simp only [Nat.min_def]; split <;> omega)
   (fun j u hj => by
    rw [Addr.add_lit, hWc, World.cell?_setCells_out _ _ _ _ _ (fun h _ => absurd h hbN)]
    exact hOb _ u (hcs (i + j) u (by rwa [List.getElem?_drop] at hj)))
   (fun j hj => by rw [hWc]; exact some_cells _ [v] i W1 (fun t ht => hN _ (by simp at ht; omega)) _ (hN _ (by rw [hdl] at hj; omega)))
   (fun j hj => by rw [hWf, World.frozen?_setCells]; exact hNf _) (fun u hu => h1c u (List.mem_of_mem_drop hu))
 subst hW1
 have hE1 : ∀ x, ((w.alloc (.cells ROW 29)).drew).cell? x = (w.drew.alloc (.cells ROW 29)).cell? x := fun x => rfl
 have hE2 : ∀ x, ((w.alloc (.cells ROW 29)).drew).frozen? x = (w.drew.alloc (.cells ROW 29)).frozen? x := fun x => rfl
 have hF1 : ∀ x, (((w.alloc (.cells ROW 29)).drew.setCells w.heap.size i [v]).drew).cell? x = ((w.drew.alloc (.cells ROW 29)).setCells w.heap.size i [v]).cell? x := fun x => rfl
 have hF2 : ∀ x, (((w.alloc (.cells ROW 29)).drew.setCells w.heap.size i [v]).drew).frozen? x = ((w.drew.alloc (.cells ROW 29)).setCells w.heap.size i [v]).frozen? x := fun x => rfl
 have hw1 : IntKind.i64.wrap ((i : Int) + 1) = (i : Int) + 1 := by rw [IntKind.wrap_i64]; omega
 have hb1 : (0 : Int) ≤ (i : Int) + 1 := by omega
 have hin : i ≤ n := by omega
 have htn : ((i : Int) + 1).toNat = i + 1 := by omega
 have hb3 : (i : Int) ≤ (n : Int) := by omega
 have hcs' := hide hcs
 clear hkk hik hold hROW hG hRl hcs hl
 go_enter Tryz.func112, Tryz.ntmps112
 go_wp2_with (first
  | (at_builtin; refine Lib.wpList_append_run _ rfl _ _ _ _ rfl _ _ rfl rfl _ _ (hrz _) ?_)
  | (at_builtin; refine at_copy _ rfl _ _ 24 24 rfl _ _ rfl rfl (hcpA _ hE1 hE2 _ _) ?_)
  | (at_builtin; refine at_copy _ rfl _ _ 24 24 rfl _ _ rfl rfl (hcpB _ (fun _ => rfl) (fun _ => rfl) _ _ _) ?_))
 go_region_law_o (refine step_copy rfl _ _ 24 24 rfl (.slice (some ⟨w.heap.size, i + 1, none⟩) (n - i) (G - (i + 1))) (.slice (some ⟨g, i, none⟩) (n - i) (c - i)) (by simp [Act.eval, Act.put]) (by simp [Act.eval, Act.put]) (hcpB _ hF1 hF2 3 (G - (i + 1)) (c - i)) ?_)
 go_wp2
 go_ret
 exact ⟨rfl, rfl⟩

set_option maxRecDepth 100000

theorem slv_one (t : Sl) : (Sl.v t).oneCell' = true := rfl
theorem slv_ones {es : List Sl} : ∀ u ∈ es.map Sl.v, u.oneCell' = true := fun u hu => by
 obtain ⟨t, _, rfl⟩ := List.mem_map.1 hu
 rfl

/-- A row of which nothing is known but its cells. -/
theorem own_mk {W : World} {B g n c : Nat} {T : TypeId} {ys : List Value} {cur : Array Value} (hB : B ≤ g) (hg : W.heap[g]? = some (.cells cur T (0, 0))) (hs : cur.size = c) (hc : c ≤ maxLen) (hn : n ≤ c) (hy : ys.length = n) (hi : ∀ i, i < n → cur.toList[i]? = ys[i]?) :
    W.ownsRow B T 1 (.slice (some ⟨g, 0, none⟩) n c) n ys := by
 refine ⟨by rw [hy, Nat.mul_one], .inr ⟨g, c, cur, rfl, hB, hg, hn, hc, by rw [hs, Nat.mul_one], ?_⟩⟩
 rw [Nat.mul_one]
 apply List.ext_getElem?
 intro i
 by_cases h : i < n
 · rw [List.getElem?_take, if_pos h]
   exact hi i h
 · rw [List.getElem?_eq_none (by simp; omega), List.getElem?_eq_none (by omega)]

/-- What two stores make of a row: one thing more at a place. -/
theorem put_two (vs xs : List Value) (k n : Nat) (v : Value) (hv : n + 1 ≤ vs.length) (hx : xs.length = n) (hk : k ≤ n) (h : ∀ i, i < k → vs[i]? = xs[i]?) : ∀ i, i < n + 1 → (setL (setL vs (k + 1) (xs.drop k)) k [v])[i]? = (putAt xs k v)[i]? := by
 intro i hi
 have hd : (xs.drop k).length = n - k := by simp; omega
 rw [setL_get _ _ _ _ (by rw [setL_length]; simp; omega), putAt_get xs k i v (by omega)]
 by_cases h1 : i < k
 · rw [if_neg (by omega), setL_get _ _ _ _ (by rw [hd]; omega), if_neg (by omega), if_pos h1]
   exact h i h1
 · by_cases h2 : i = k
   · subst h2
     rw [if_pos ⟨Nat.le_refl _, by simp⟩, if_neg h1, if_pos rfl, Nat.sub_self]
     rfl
   · rw [if_neg (by simp; omega), setL_get _ _ _ _ (by rw [hd]; omega), if_pos ⟨by omega, by rw [hd]; omega⟩, if_neg h1, if_neg h2, List.getElem?_drop]
     congr 1
     omega

theorem put_two' (vs xs : List Value) (k n : Nat) (v : Value) (hv : n + 1 ≤ vs.length) (hx : xs.length = n) (hk : k ≤ n) (h : ∀ i, i < k → vs[i]? = xs[i]?) : ∀ i, i < n + 1 → (setL (setL vs k [v]) (k + 1) (xs.drop k))[i]? = (putAt xs k v)[i]? := by
 intro i hi
 have hd : (xs.drop k).length = n - k := by simp; omega
 rw [setL_get _ _ _ _ (by rw [setL_length, hd]; omega), putAt_get xs k i v (by omega)]
 by_cases h1 : i < k
 · rw [if_neg (by omega), setL_get _ _ _ _ (by simp; omega), if_neg (by simp; omega), if_pos h1]
   exact h i h1
 · by_cases h2 : i = k
   · subst h2
     rw [if_neg (by omega), setL_get _ _ _ _ (by simp; omega), if_pos ⟨Nat.le_refl _, by simp⟩, if_neg h1, if_pos rfl, Nat.sub_self]
     rfl
   · rw [if_pos ⟨by omega, by rw [hd]; omega⟩, if_neg h1, if_neg h2, List.getElem?_drop]
     congr 1
     omega

theorem putAt_map {α β : Type} (f : α → β) (xs : List α) (k : Nat) (v : α) : (putAt xs k v).map f = putAt (xs.map f) k (f v) := by
 unfold putAt
 simp [List.map_take, List.map_drop]

set_option maxHeartbeats 1000000 in
theorem insert_any (B g n c k vb vc : Nat) (Tv : TypeId) (es : List Sl) (t : Sl) (w : World) (h : w.ownsRow B 29 1 (.slice (some ⟨g, 0, none⟩) n c) n (es.map Sl.v)) (hk : k ≤ n) (hn : n ≤ 100) (hB : B ≤ w.heap.size)
    (hvb : w.heap[vb]? = some (.cells #[Sl.v t] Tv (0, 0))) (hne : vb ≠ g) :
    Calls Tryz.prog 112 #[.slice (some ⟨g, 0, none⟩) n c, .int .i64 k, .slice (some ⟨vb, 0, none⟩) 1 vc] w fun e w' =>
     ∃ g' c', e = .returned (.slice (some ⟨g', 0, none⟩) (n + 1) c') ∧ w'.ownsRow B 29 1 (.slice (some ⟨g', 0, none⟩) (n + 1) c') (n + 1) ((putAt es k t).map Sl.v) ∧ w.grownBy w' (some g) ∧ (g' = g ∨ w.heap.size ≤ g') := by
 obtain ⟨cur, hg, hcs, hnc, hcm, hBg, hxl, hcell⟩ := own_blk h
 have hgw := lt_of_block hg
 have hv : w.cell? ⟨vb, 0, none⟩ = some (Sl.v t) := by rw [cell_of_row w vb 0 _ Tv (0, 0) hvb]; rfl
 have hcl : ∀ j u, (es.map Sl.v)[j]? = some u → w.cell? ⟨g, j, none⟩ = some u := fun j u hj => by
  have hjn : j < n := by have := (List.getElem?_eq_some_iff.1 hj).1; omega
  rw [cell_of_row w g j cur 29 (0, 0) hg, Array.getElem?_toList.symm, hcell j hjn]
  exact hj
 rw [putAt_map]
 by_cases hkn : k = n
 · subst hkn
   refine (insEnd_any B g k c vb vc (es.map Sl.v) (Sl.v t) w h hB hv (slv_one t) hn).mono ?_
   rintro e w' ⟨v', rfl, h1, h2, h3⟩
   have he : putAt (es.map Sl.v) k (Sl.v t) = es.map Sl.v ++ [Sl.v t] := by
    unfold putAt
    rw [List.take_of_length_le (by omega), List.drop_of_length_le (by omega), List.append_nil]
   rw [he]
   obtain ⟨a', c', hv'⟩ := own_shape h1
   subst hv'
   obtain ⟨g', c2, hv2⟩ := own_some h1 (by omega)
   simp only [Value.slice.injEq] at hv2
   obtain ⟨rfl, _, rfl⟩ := hv2
   refine ⟨g', c', rfl, h1, h2, ?_⟩
   rcases h3 with h3 | h3
   · exact .inl (by simpa [Value.ownBlock] using h3)
   · exact .inr (by have : g' = w.heap.size := by simpa [Value.ownBlock] using h3
                    omega)
 · have hlt : k < n := by omega
   by_cases hroom : n + 1 ≤ c
   · refine (insShift_any g n c k vb vc (es.map Sl.v) (Sl.v t) w hlt hroom (by unfold maxLen at hcm; omega) hne hxl hcl (fun j hj => ?_) (fun j => frozen_of_row w g j cur 29 hg) hv slv_ones (slv_one t) Tv 29 1 c ?_ ?_ (by omega) (frozen_of_row w vb 0 _ Tv hvb) (frozen_of_row w vb 1 _ Tv hvb)).mono ?_
     · rw [cell_of_row w g j cur 29 (0, 0) hg, Array.getElem?_eq_getElem (by omega)]
       rfl
     · unfold World.shape?
       rw [hvb]
       rfl
     · unfold World.shape?
       rw [hg]
       simp [hcs]
     · rintro e w' ⟨rfl, rfl⟩
       obtain ⟨cur1, q1, q2⟩ := setCells_row ((es.map Sl.v).drop k) (k + 1) w.drew cur hg
       obtain ⟨cur2, q3, q4⟩ := setCells_row [Sl.v t] k _ cur1 q1
       have hsz : cur2.size = c := by
        rw [← Array.length_toList, q4, setL_length, q2, setL_length, Array.length_toList]
        exact hcs
       refine ⟨g, c, rfl, own_mk hBg q3 hsz hcm hroom (by rw [putAt_length _ _ _ (by omega)]; omega) ?_, ?_, .inl rfl⟩
       · rw [q4, q2]
         exact put_two cur.toList (es.map Sl.v) k n (Sl.v t) (by rw [Array.length_toList]; omega) hxl hk (fun i hi => hcell i (by omega))
       · exact grownP (grownP (⟨rfl, rfl, rfl, Nat.le_refl _, fun _ _ _ => rfl⟩ : w.grownBy w.drew (some g)) (grown_cells g _ _ _)) (grown_cells g _ _ _)
   · refine (insGrow_any g n c k vb vc (es.map Sl.v) (Sl.v t) w hlt hnc (by omega) hn hxl hcl hv slv_ones (slv_one t)).mono ?_
     rintro e w' ⟨rfl, rfl⟩
     have hGn : n + 1 ≤ grownCap w (n + 1) c 29 := grownCap_ge w _ _ _
     have hGm : grownCap w (n + 1) c 29 ≤ maxLen := grownCap_le_maxLen w (n + 1) c 29 (by unfold maxLen; omega)
     obtain ⟨G, hG⟩ : ∃ G, G = grownCap w (n + 1) c 29 := ⟨_, rfl⟩
     rw [← hG] at hGn hGm ⊢
     obtain ⟨ROW, hROW⟩ : ∃ ROW : Array Value, ROW = ((es.map Sl.v).take k).toArray ++ Builtin.zeroCells (Value.slice none 0 0).cells (n + 1 - k) ++ Builtin.zeroCells (Value.slice none 0 0).cells (G - (n + 1)) := ⟨_, rfl⟩
     rw [← hROW]
     have hRs : ROW.size = G := by
      rw [hROW]
      simp [Builtin.zeroCells, Value.cells]
      have : es.length = n := by simpa using hxl
      omega
     have hRk : ∀ i, i < k → ROW.toList[i]? = (es.map Sl.v)[i]? := fun i hi => by
      have hl : ((es.map Sl.v).take k).length = k := by rw [List.length_take]; omega
      rw [hROW, Array.toList_append, Array.toList_append, List.append_assoc, List.getElem?_append_left (by simp at hl ⊢; omega)]
      simp only [List.getElem?_take]
      rw [if_pos hi]
     have hnew : ((w.alloc (.cells ROW 29)).drew).heap[w.heap.size]? = some (.cells ROW 29 (0, 0)) := by
      show (w.alloc (.cells ROW 29)).heap[w.heap.size]? = _
      exact SBlk.new w ROW 29
     obtain ⟨cur1, q1, q2⟩ := setCells_row [Sl.v t] k _ ROW hnew
     obtain ⟨cur2, q3, q4⟩ := setCells_row ((es.map Sl.v).drop k) (k + 1) (((w.alloc (.cells ROW 29)).drew.setCells w.heap.size k [Sl.v t]).drew) cur1 q1
     have hsz : cur2.size = G := by
      rw [← Array.length_toList, q4, setL_length, q2, setL_length, Array.length_toList]
      exact hRs
     refine ⟨w.heap.size, G, rfl, own_mk hB q3 hsz hGm hGn (by rw [putAt_length _ _ _ (by omega)]; omega) ?_, ?_, .inr (Nat.le_refl _)⟩
     · rw [q4, q2]
       exact put_two' ROW.toList (es.map Sl.v) k n (Sl.v t) (by rw [Array.length_toList]; omega) hxl hk hRk
     · have b1 := (below_alloc w (.cells ROW 29)).drew
       have g1 := grown_cells w.heap.size [Sl.v t] k ((w.alloc (.cells ROW 29)).drew)
       have g2 := grown_cells w.heap.size ((es.map Sl.v).drop k) (k + 1) (((w.alloc (.cells ROW 29)).drew.setCells w.heap.size k [Sl.v t]).drew)
       refine ⟨g2.os.trans (g1.os.trans b1.os), g2.tape.trans (g1.tape.trans b1.tape), g2.output.trans (g1.output.trans b1.output), Nat.le_trans b1.size (Nat.le_trans g1.size g2.size), fun q hq _ => ?_⟩
       have hq1 : some q ≠ some w.heap.size := fun e => by have := Option.some.inj e; omega
       exact (g2.block q (Nat.lt_of_lt_of_le hq (Nat.le_trans b1.size g1.size)) hq1).trans ((g1.block q (Nat.lt_of_lt_of_le hq b1.size) hq1).trans (b1.block q hq))

set_option maxRecDepth 100000

set_option maxHeartbeats 4000000 in
theorem delCells_any (g n c i : Nat) (xs : List Value) (w : World) (hi : i < n) (hnc : n ≤ c) (hcm : c ≤ maxLen) (hn : n ≤ 100) (hl : xs.length = n)
    (hcs : ∀ j u, xs[j]? = some u → w.cell? ⟨g, j, none⟩ = some u) (hfz : ∀ j, w.frozen? ⟨g, j, none⟩ = false) (h1c : ∀ u ∈ xs, u.oneCell' = true) :
    Calls Tryz.prog 114 #[.slice (some ⟨g, 0, none⟩) n c, .int .i64 i, .int .i64 (i + 1)] w fun e w' =>
     e = .returned (.slice (some ⟨g, 0, none⟩) (n - 1) c) ∧ w' = (w.drew.setCells g i (xs.drop (i + 1))).setCells g (n - 1) [.slice none 0 0] := by
 have mixed : Tryz.prog.follows .mixedOrders = true := by kernel_rfl
 obtain ⟨i0, hi0, hz0, hz1, hz2⟩ := info_parts infoBs
 obtain ⟨news, hnews⟩ : ∃ news, news = xs.drop (i + 1) := ⟨_, rfl⟩
 have hlen : news.length = n - (i + 1) := by rw [hnews, List.length_drop, hl]
 obtain ⟨A, hA, hsrc⟩ : ∃ A : Addr, (if c = i + 1 then some (⟨g, 0, none⟩ : Addr) else some ⟨g, i + 1, none⟩) = some A ∧ Hid (∀ t u, news[t]? = some u → w.drew.cell? (A.add t) = some u) := by
  by_cases h : c = i + 1
  · refine ⟨⟨g, 0, none⟩, by simp [h], fun t u hu => ?_⟩
    rw [List.length_eq_zero_iff.1 (by rw [hlen]; omega : news.length = 0)] at hu
    simp at hu
  · refine ⟨⟨g, i + 1, none⟩, by simp [h], fun t u hu => ?_⟩
    rw [Addr.add_lit]
    refine hcs (i + 1 + t) u ?_
    rw [hnews, List.getElem?_drop] at hu
    exact hu
 have hsome : ∀ j, j < n → (w.cell? ⟨g, j, none⟩).isSome = true := fun j hj => by
  obtain ⟨u, hu⟩ : ∃ u, xs[j]? = some u := ⟨_, List.getElem?_eq_getElem (by omega)⟩
  rw [hcs j u hu]; rfl
 have s1 : Hid (news.length = (n - (i + 1)) * 1) := by rw [Nat.mul_one]; exact hlen
 have s2 : Hid (∀ u ∈ news, u.oneCell' = true) := fun u hu => by rw [hnews] at hu; exact h1c u (List.mem_of_mem_drop hu)
 have s3 : Hid (∀ t, t < news.length → (w.drew.cell? ⟨g, 0 + i * 1 + t, none⟩).isSome = true ∧ w.drew.frozen? ⟨g, 0 + i * 1 + t, none⟩ = false) := fun t ht => by
  rw [Nat.mul_one, Nat.zero_add]
  exact ⟨hsome (i + t) (by rw [hlen] at ht; omega), hfz _⟩
 obtain ⟨W1, hW1⟩ : ∃ W1, W1 = w.drew.setCells g (0 + i * 1) news := ⟨_, rfl⟩
 have hW1' : W1 = w.drew.setCells g i news := by rw [hW1]; simp
 have hcl : ∀ ty, (Builtin.clear_ #[24] ty #[.slice (some ⟨g, i + (n - (i + 1)), none⟩) (n - (i + (n - (i + 1)))) (c - (i + (n - (i + 1))))]).run Tryz.prog W1 = .ok (.tuple #[]) (W1.setCells g (i + (n - (i + 1))) (List.replicate (n - (i + (n - (i + 1)))) (.slice none 0 0))) :=
  fun ty => Lib.run_clear_slice W1 24 29 ty (.slice none 0 0) Tryz.underlying24 (fun w => by kernel_rfl) rfl rfl g (i + (n - (i + 1))) (n - (i + (n - (i + 1)))) _ (by omega)
   (fun t ht => by rw [hW1']; exact some_cells g news i w.drew (fun t ht => hsome (i + t) (by rw [hlen] at ht; omega)) _ (hsome _ (by omega)))
   (fun t ht => by rw [hW1', World.frozen?_setCells]; exact hfz _)
 have hW : Hid (W1 = w.drew.setCells g (0 + i * 1) news) := hW1
 have hic : i ≤ c := by omega
 have hjc : i + 1 ≤ c := by omega
 have hw1 : ¬ ((i : Int) = (i : Int) + 1) := by omega
 have htn : ((i : Int) + 1).toNat = i + 1 := by omega
 have hb0 : (0 : Int) ≤ (i : Int) + 1 := by omega
 have hb1 : (i : Int) + 1 ≤ (n : Int) := by omega
 have hb2 : (i : Int) ≤ (n : Int) := by omega
 have hin : i ≤ n := by omega
 have hcs' := hide hcs
 have X := hide hW1'
 have XN := hide hnews
 clear hW1 hW1' hcs hnews hlen hsome hfz hl
 go_enter Tryz.func114, Tryz.ntmps114
 go_wp2_with fail
 go_region_law_o (refine step_append_room rfl (.tmp 22) (.tmp 25) 24 rfl 29 i0 1 Tryz.underlying24 hi0 hz1 g 0 i c (by simp [Act.eval, Act.put]) A (n - (i + 1)) (c - (i + 1)) news (by simp [Act.eval, Act.put, hA]) (unhide s1) (unhide hsrc) (unhide s2) (by omega) (unhide s3) ?_; rw [← unhide hW])
 go_wp2
 go_ret
 have hni : i + (n - (i + 1)) = n - 1 := by omega
 refine ⟨(by show Ending.returned (.slice (some ⟨g, 0, none⟩) (i + (n - (i + 1))) c) = _; rw [hni]), ?_⟩
 rw [unhide X, unhide XN, show i + (n - (i + 1)) = n - 1 by omega, show n - (n - 1) = 1 by omega]
 rfl

set_option maxHeartbeats 1000000 in
theorem delete_any (B g n c k : Nat) (es : List Sl) (w : World) (h : w.ownsRow B 29 1 (.slice (some ⟨g, 0, none⟩) n c) n (es.map Sl.v)) (hk : k < n) (hn : n ≤ 100) :
    Calls Tryz.prog 114 #[.slice (some ⟨g, 0, none⟩) n c, .int .i64 k, .int .i64 (k + 1)] w fun e w' =>
     e = .returned (.slice (some ⟨g, 0, none⟩) (n - 1) c) ∧ w'.ownsRow B 29 1 (.slice (some ⟨g, 0, none⟩) (n - 1) c) (n - 1) ((es.take k ++ es.drop (k + 1)).map Sl.v) ∧ w.grownBy w' (some g) := by
 obtain ⟨cur, hg, hcs, hnc, hcm, hBg, hxl, hcell⟩ := own_blk h
 have hcl : ∀ j u, (es.map Sl.v)[j]? = some u → w.cell? ⟨g, j, none⟩ = some u := fun j u hj => by
  have hjn : j < n := by have := (List.getElem?_eq_some_iff.1 hj).1; omega
  rw [cell_of_row w g j cur 29 (0, 0) hg, Array.getElem?_toList.symm, hcell j hjn]
  exact hj
 refine (delCells_any g n c k (es.map Sl.v) w hk hnc hcm hn hxl hcl (fun j => frozen_of_row w g j cur 29 hg) slv_ones).mono ?_
 rintro e w' ⟨rfl, rfl⟩
 have hel : es.length = n := by simpa using hxl
 obtain ⟨cur1, q1, q2⟩ := setCells_row ((es.map Sl.v).drop (k + 1)) k w.drew cur hg
 obtain ⟨cur2, q3, q4⟩ := setCells_row [Value.slice none 0 0] (n - 1) _ cur1 q1
 have hd : ((es.map Sl.v).drop (k + 1)).length = n - (k + 1) := by rw [List.length_drop, hxl]
 have hcl2 : cur.toList.length = c := by rw [Array.length_toList]; exact hcs
 have hsz : cur2.size = c := by rw [← Array.length_toList, q4, setL_length, q2, setL_length]; exact hcl2
 refine ⟨rfl, own_mk hBg q3 hsz hcm (by omega) (by simp [hel]; omega) (fun i hi => ?_), ?_⟩
 · have he : (es.take k ++ es.drop (k + 1)).map Sl.v = (es.map Sl.v).take k ++ (es.map Sl.v).drop (k + 1) := by simp [List.map_take, List.map_drop]
   rw [he, cutAt_get _ _ _ (by omega), q4, q2, setL_get _ _ _ _ (by rw [setL_length, hcl2]; simp; omega), if_neg (by omega), setL_get _ _ _ _ (by rw [hd, hcl2]; omega), hd]
   by_cases h1 : i < k
   · rw [if_neg (by omega), if_pos h1]
     exact hcell i (by omega)
   · rw [if_pos ⟨by omega, by omega⟩, if_neg h1, List.getElem?_drop]
     congr 1
     omega
 · exact grownP (grownP (⟨rfl, rfl, rfl, Nat.le_refl _, fun _ _ _ => rfl⟩ : w.grownBy w.drew (some g)) (grown_cells g _ _ _)) (grown_cells g _ _ _)

set_option maxRecDepth 100000

/-- Each path right under p is turned by f: the thing at a place comes to another one, or is no part of the row any more (its blocks come under q). -/
def shiftC (p : Path) (f : Nat → Option Nat) (q : Path) (c : Path) : Path :=
 if c.length = p.length + 1 ∧ p <+: c then (match f (c.getLastD 0) with | some j => p ++ [j] | none => q) else c

theorem shiftC_at (p : Path) (f : Nat → Option Nat) (q : Path) (i : Nat) : shiftC p f q (p ++ [i]) = match f i with | some j => p ++ [j] | none => q := by
 unfold shiftC
 rw [if_pos ⟨by simp, List.prefix_append _ _⟩]
 have e : (p ++ [i]).getLastD 0 = i := by simp [List.getLastD_eq_getLast?]
 rw [e]

theorem shiftC_other (p : Path) (f : Nat → Option Nat) (q c : Path) (h : ¬ p <+: c) : shiftC p f q c = c := by
 unfold shiftC
 rw [if_neg (fun e => h e.2)]

/-- Bytes at a place that come to another one. -/
theorem BOwn.shift {w : World} {B : Nat} {d : Nat → Path} {p : Path} {f : Nat → Option Nat} {q : Path} {i j : Nat} {s : Sl} {z : List Int} (h : BOwn w B d (p ++ [i]) s z) (hf : f i = some j) : BOwn w B (fun g => shiftC p f q (d g)) (p ++ [j]) s z :=
 ⟨h.rng, h.own, fun x hx => by show shiftC p f q (d x.block) = _; rw [h.col x hx, shiftC_at, hf]⟩

/-- What lies elsewhere stays. -/
theorem Kd.shift {α β : Type} (K : Kd α β) {w : World} {B : Nat} {d : Nat → Path} {p r : Path} {f : Nat → Option Nat} {q : Path} {e : β} {x : α} (h : K.Own w B d r e x) (hr : ∀ c, r <+: c → ¬ p <+: c) : K.Own w B (fun g => shiftC p f q (d g)) r e x :=
 K.recol h (fun g _ _ hc => shiftC_other p f q (d g) (hr _ hc))

/-- A row of bytes without the one at a place, in the block in which it lay: those behind it move up. -/
def upF (k : Nat) (i : Nat) : Option Nat := if i < k then some i else if i = k then none else some (i - 1)
/-- A row of bytes with room for one more at a place: those from there on move down. -/
def downF (k : Nat) (i : Nat) : Option Nat := if i < k then some i else some (i + 1)

end Go.Proofs.YtdmcmlcmgbbclaaGreat
