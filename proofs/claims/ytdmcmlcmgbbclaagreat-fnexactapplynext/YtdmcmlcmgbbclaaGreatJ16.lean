/- What is proved here: what the model's CastVote answers. -/
import Derived.Test.YtdmcmlcmgbbclaaGreatJ15
import Derived.Test.YtdmcmlcmgbbclaaGreatJ10
import Derived.Test.YtdmcmlcmgbbclaaGreatJ8
import Derived.Test.YtdmcmlcmgbbclaaGreatJ9
import Derived.Test.YtdmcmlcmgbbclaaGreatJ7
import Derived.Test.YtdmcmlcmgbbclaaGreatJ13
import Derived.Test.YtdmcmlcmgbbclaaGreatJ2
import Derived.Test.YtdmcmlcmgbbclaaGreatJ4
import Derived.Test.YtdmcmlcmgbbclaaGreatJ3
import Derived.Test.YtdmcmlcmgbbclaaGreatJ1
import Derived.Test.YtdmcmlcmgbbclaaGreatJ6
namespace Go.Proofs.YtdmcmlcmgbbclaaGreat
set_option linter.unusedVariables false
set_option linter.unusedSimpArgs false
open Go.RowKit
set_option maxRecDepth 100000

/-- The code of CastVote, and the snapshot that it answers. -/
def cvCode (x : Sn) (s t : List Int) (add : Bool) : Int :=
 if snFlt x ≠ 0 then snFlt x else if (s.length == 4) = false then 1 else if (t.length == 4) = false then 1 else if decide (s ∈ x.2.1) = false then 4 else ctCode x s t add
def cvSn (x : Sn) (s t : List Int) (add : Bool) : Sn := if cvCode x s t add = 0 then ctSn x s t add else (0, [], [], [])
/-- The five cells of a SnapResult. -/
def srvals (c : Int) (e : SnS) (x : Sn) : Array Value := #[.int .i64 c, .int .i64 x.1, .slice e.2.1.a e.2.1.n e.2.1.c, .slice e.2.2.1.a e.2.2.1.n e.2.2.1.c, .slice e.2.2.2.a e.2.2.2.n e.2.2.2.c]

theorem sn_nil (w : World) : SNK.Ok w ((), ⟨none, 0, 0⟩, ⟨none, 0, 0⟩, ⟨none, 0, 0⟩) (0, [], [], []) :=
 ⟨(show in64 0 by unfold in64; omega), ⟨rfl, Nat.le_refl _, Nat.zero_le _, fun _ => rfl, fun h => absurd h (by simp)⟩, ⟨rfl, Nat.le_refl _, Nat.zero_le _, fun _ => rfl, fun h => absurd h (by simp)⟩, ⟨rfl, Nat.le_refl _, Nat.zero_le _, fun _ => rfl, fun h => absurd h (by simp)⟩⟩

theorem set5 {w W : World} {B g : Nat} (h : Below B w W) (hg : B ≤ g) (a b c d e : Value) : Below B w (((((W.setCell ⟨g, 0, none⟩ a).setCell ⟨g, 1, none⟩ b).setCell ⟨g, 2, none⟩ c).setCell ⟨g, 3, none⟩ d).setCell ⟨g, 4, none⟩ e) := (set4 h hg a b c d).setCell (p := ⟨g, 4, none⟩) hg e
theorem other5 {w : World} {g k : Nat} (h : ¬ k = g) (a b c d e : Value) : (((((w.setCell ⟨g, 0, none⟩ a).setCell ⟨g, 1, none⟩ b).setCell ⟨g, 2, none⟩ c).setCell ⟨g, 3, none⟩ d).setCell ⟨g, 4, none⟩ e).heap[k]? = w.heap[k]? := by
 rw [heap_setCell_other _ ⟨g, 4, none⟩ k e h, other4 h]
theorem five_blk {w : World} {g : Nat} {x y z u v : Value} {t : TypeId} (k : SBlk w g [x, y, z, u, v] t) : (w.cell? ⟨g, 0, none⟩ = some x ∧ w.cell? ⟨g, 1, none⟩ = some y ∧ w.cell? ⟨g, 2, none⟩ = some z ∧ w.cell? ⟨g, 3, none⟩ = some u ∧ w.cell? ⟨g, 4, none⟩ = some v) ∧ w.frozen? ⟨g, 0, none⟩ = false ∧ w.frozen? ⟨g, 1, none⟩ = false ∧ w.frozen? ⟨g, 2, none⟩ = false ∧ w.frozen? ⟨g, 3, none⟩ = false ∧ w.frozen? ⟨g, 4, none⟩ = false := ⟨⟨k.cell 0, k.cell 1, k.cell 2, k.cell 3, k.cell 4⟩, k.free 0, k.free 1, k.free 2, k.free 3, k.free 4⟩

set_option maxRecDepth 100000

/-- A snapshot in the block gs while recents are appended to its own: W0 the world ahead of them, B where their memory begins. -/
structure RcJ (W0 : World) (C gs B : Nat) (v0 v1 v3 : Value) (ys : List Rc) (W : World) (s : Sl) (d : Nat → Path) : Prop where
 blk : SBlk W gs [v0, v1, .slice s.a s.n s.c, v3] 37
 row : RowG rcK 93 W B d [] s ys
 keep : ∀ g, g < B → g ≠ gs → W.heap[g]? = W0.heap[g]?
 old : Below C W0 W
 size : B ≤ W.heap.size
 gsB : gs < B
 low : C ≤ gs

theorem RcJ.below {W0 W W' : World} {C gs B : Nat} {v0 v1 v3 : Value} {ys : List Rc} {s : Sl} {d : Nat → Path} (h : RcJ W0 C gs B v0 v1 v3 ys W s d) (hb : Below W.heap.size W W') : RcJ W0 C gs B v0 v1 v3 ys W' s d :=
 ⟨h.blk.below hb h.blk.lt, h.row.below hb (Nat.le_refl _), fun g a b => (hb.block g (Nat.lt_of_lt_of_le a h.size)).trans (h.keep g a b), h.old.trans (hb.mono (by have := h.blk.lt; have := h.low; omega)), Nat.le_trans h.size hb.size, h.gsB, h.low⟩

/-- One more recent: its slice is new. -/
theorem RcJ.step {W0 W W1 WA W2 : World} {C gs B : Nat} {v0 v1 v3 : Value} {ys : List Rc} {s : Sl} {d : Nat → Path} {q : Int} {z : List Int} {a1 : Option Addr} {n1 c1 : Nat} {g2 cap2 : Nat} {es : List RcS}
    (h : RcJ W0 C gs B v0 v1 v3 ys W s d) (hq : in64 q) (hz : ∀ x ∈ z, 0 ≤ x ∧ x ≤ 255)
    (ho : W1.ownsRow W.heap.size 5 1 (.slice a1 n1 c1) n1 (z.map (Value.int .u8))) (hb : Below W.heap.size W W1) (bA : Below W1.heap.size W1 WA)
    (e2 : es.length = ys.length) (e4 : ∀ i e x, es[i]? = some e → ys[i]? = some x → rcK.Own W B d ([] ++ [i]) e x)
    (hown : W2.ownsRow B 93 2 (.slice (some ⟨g2, 0, none⟩) (s.n + 1) cap2) (s.n + 1) (flatV rcK es ys ++ [.int .i64 q, .slice a1 n1 c1])) (hg : WA.grownBy W2 (Value.slice s.a s.n s.c).ownBlock) (hat : (Value.slice s.a s.n s.c).ownBlock = some g2 ∨ g2 = WA.heap.size) :
    (∃ u, W2.cell? ⟨gs, 2, none⟩ = some u) ∧ W2.frozen? ⟨gs, 2, none⟩ = false ∧ Below C W0 W2 ∧ ∃ d', RcJ W0 C gs B v0 v1 v3 (ys ++ [(q, z)]) (W2.setCell ⟨gs, 2, none⟩ (.slice (some ⟨g2, 0, none⟩) (s.n + 1) cap2)) ⟨some ⟨g2, 0, none⟩, s.n + 1, cap2⟩ d' := by
 have hgs := h.blk.lt
 have hB := h.size
 have hgB := h.gsB
 have hlo := h.low
 have b0A : Below W.heap.size W WA := hb.trans (bA.mono hb.size)
 obtain ⟨d1, hd1⟩ : ∃ d1 : Nat → Path, d1 = fun g => if W.heap.size ≤ g then [ys.length, 1] else d g := ⟨_, rfl⟩
 have hdo : ∀ g, g < W.heap.size → d1 g = d g := fun g hg => by rw [hd1]; exact if_neg (by omega)
 have own1 : rcK.Own WA B d1 ([] ++ [ys.length]) ((), ⟨a1, n1, c1⟩) (q, z) := by
  refine ⟨hq, hz, ?_, fun x hx => ?_⟩
  · exact ownsRow_base (own_below ho bA (Nat.le_refl _)) hB
  · have hx' : a1 = some x := hx
    have := (ho.lt x.block (by rw [hx']; rfl)).1
    rw [hd1]
    exact if_pos this
 have hrow := h.row
 have h4' : ∀ x, s.a = some x → d1 x.block = [] := fun x hx => by
  rw [hdo _ (hrow.blk hx).2]
  obtain ⟨_, es', _, _, q4, _⟩ := hrow
  exact q4 x hx
 have S := RowG.snoc (K := rcK) (w := WA) (d := d1) (p := []) (s := s) hrow.len e2 h4' (fun i e x he hx => rcK.ownBelow (rcK.recolNew (e4 i e x he hx) hdo) b0A (Nat.le_refl _)) own1 hown hg hat
 have hob : ∀ g, (Value.slice s.a s.n s.c).ownBlock = some g → B ≤ g := fun g hg' => by
  cases ha : s.a with
  | none => rw [ha] at hg'; cases hg'
  | some y => rw [ha] at hg'; obtain rfl := Option.some.inj hg'; exact (hrow.blk ha).1
 have kA := h.blk.below b0A hgs
 have hsA := b0A.size
 have k2 : SBlk W2 gs [v0, v1, .slice s.a s.n s.c, v3] 37 := (hg.block gs kA.lt (fun e => by have := hob gs e.symm; omega)).trans kA
 have f5 : Below C W0 W2 := (h.old.trans (b0A.mono (by omega))).grown hg (by omega) (fun g e => by have := hob g e; omega)
 refine ⟨⟨_, k2.cell 2⟩, k2.free 2, f5, _, ⟨k2.set 2 _, S.set hgB, fun g a b => ?_, ?_, ?_, hgB, hlo⟩⟩
 · rw [heap_setCell_other W2 ⟨gs, 2, none⟩ g _ (fun e => b e)]
   rw [hg.block g (by omega) (fun e => by have := hob g e.symm; omega), b0A.block g (by omega)]
   exact h.keep g a b
 · exact f5.setCell (p := ⟨gs, 2, none⟩) hlo _
 · have := hg.size
   simp [World.setCell]
   omega

/-- The number above which who signed is recent behind a header. -/
def apBound (x : Sn) (n : Int) : Int := n - ((x.2.1.length / 2 : Nat) : Int) - 1
/-- Those who are recent behind a header. -/
def apRc (x : Sn) (n : Int) (g : List Int) : List Rc := x.2.2.1.filter (fun r => decide (apBound x n < r.1)) ++ [(n, g)]
/-- The snapshot behind a header whose vote is not cast yet. -/
def apPass (c : Cf) (x : Sn) (h : Hd) : Sn := (h.n1, x.2.1, apRc x h.n1 h.g, if h.n1 % c.2.2 = 0 then [] else x.2.2.2)
/-- The snapshot behind a header. -/
def apSn (c : Cf) (x : Sn) (h : Hd) : Sn := if h.t.length = 0 then apPass c x h else if ctCode (apPass c x h) h.g h.t (h.n5 == 1) = 0 then ctSn (apPass c x h) h.g h.t (h.n5 == 1) else apPass c x h
def apCode (c : Cf) (x : Sn) (h : Hd) : Int := if cfFlt c ≠ 0 then cfFlt c else if snFlt x ≠ 0 then snFlt x else if hdFlt h ≠ 0 then hdFlt h else if ¬ h.n1 = x.1 + 1 then 3 else if ¬ h.g ∈ x.2.1 then 4 else 0
def apAns (c : Cf) (x : Sn) (h : Hd) : Sn := if apCode c x h = 0 then apSn c x h else (0, [], [], [])

set_option maxRecDepth 100000

/-- A vote on its own. -/
def VtOk (sg : List (List Int)) (v : Vt) : Prop := v.1.length = 4 ∧ v.2.1.length = 4 ∧ v.1 ∈ sg ∧ v.2.2 ≠ decide (v.2.1 ∈ sg)

theorem vtOne_ok {sg : List (List Int)} {seen : List (List Int × List Int)} {v : Vt} (h : VtOk sg v) (hn : (v.1, v.2.1) ∉ seen) : vtOne sg seen v = 0 := by
 obtain ⟨h1, h2, h3, h4⟩ := h
 unfold vtOne
 rw [if_neg (by simp [h1, h2]), if_neg (by simp [h3]), if_neg (by simpa using h4), if_neg (by simp [hn])]

theorem vtFrom_ok {sg : List (List Int)} {vs : List Vt} (h : ∀ v ∈ vs, VtOk sg v) (hn : (vtKeys vs).Nodup) : ∀ (n k : Nat), n = vs.length - k → k ≤ vs.length → vtFrom sg vs k (vs.drop k) = 0 := by
 intro n
 induction n with
 | zero => intro k hk hl; rw [List.drop_eq_nil_of_le (by omega)]; rfl
 | succ n ih =>
  intro k hk hl
  obtain ⟨v, hv⟩ : ∃ v, vs[k]? = some v := ⟨_, List.getElem?_eq_getElem (by omega)⟩
  rw [vtFrom_step sg vs k v hv, if_pos]
  · exact ih (k + 1) (by omega) (by omega)
  · refine vtOne_ok (h v (List.mem_of_getElem? hv)) (fun hm => ?_)
    have e : vtKeys vs = vtKeys (vs.take (k + 1)) ++ vtKeys (vs.drop (k + 1)) := by unfold vtKeys; rw [← List.map_append, List.take_append_drop]
    rw [e, vtKeys_snoc vs k v hv] at hn
    have hn' := (List.nodup_append.1 hn).1
    exact (List.nodup_append.1 hn').2.2 _ hm _ (by simp) rfl

theorem vt_iff {sg : List (List Int)} {vs : List Vt} : vtFrom sg vs 0 vs = 0 ↔ (∀ v ∈ vs, VtOk sg v) ∧ (vtKeys vs).Nodup := by
 constructor
 · intro h
   refine ⟨fun v hv => ?_, vtKeys_nodup h⟩
   obtain ⟨k, hk⟩ := List.getElem?_of_mem hv
   have h1 := vtOne_zero (vtOne_all h k v hk)
   exact ⟨h1.1, h1.2.1, h1.2.2.1, h1.2.2.2.1⟩
 · rintro ⟨h, hn⟩
   have := vtFrom_ok h hn _ 0 rfl (Nat.zero_le _)
   simpa using this

theorem sg_iff {zss : List (List Int)} : sgFlt zss = 0 ↔ zss.length ≤ 7 ∧ (∀ z ∈ zss, z.length = 4) ∧ zss.Pairwise (fun x y => aheadB x y = true) := by
 constructor
 · intro h
   obtain ⟨h1, h2, h3⟩ := sg_rise h
   refine ⟨h1, h2, List.pairwise_iff_getElem.2 (fun i j hi hj hij => h3 i j _ _ hij (List.getElem?_eq_getElem hi) (List.getElem?_eq_getElem hj))⟩
 · rintro ⟨h1, h2, h3⟩
   unfold sgFlt
   rw [if_neg (by omega)]
   have key : ∀ (n k : Nat), n = zss.length - k → k ≤ zss.length → sgFrom zss k (zss.drop k) = 0 := by
    intro n
    induction n with
    | zero => intro k hk hl; exact sgFrom_end zss k (by omega)
    | succ n ih =>
     intro k hk hl
     obtain ⟨z, hz⟩ : ∃ z, zss[k]? = some z := ⟨_, List.getElem?_eq_getElem (by omega)⟩
     rw [sgFrom_step zss k z hz, if_neg]
     · exact ih (k + 1) (by omega) (by omega)
     · unfold sgBad
       have hz4 := h2 z (List.mem_of_getElem? hz)
       rcases Nat.eq_zero_or_pos k with h0 | hp
       · subst h0
         simp [hz4]
       · have hkl : k < zss.length := (List.getElem?_eq_some_iff.1 hz).1
         have ea : aheadB (zss.getD (k - 1) []) z = true := by
          rw [List.getD_eq_getElem?_getD, List.getElem?_eq_getElem (by omega : k - 1 < zss.length)]
          have e2 : zss[k] = z := (List.getElem?_eq_some_iff.1 hz).2
          rw [← e2]
          exact List.pairwise_iff_getElem.1 h3 (k - 1) k (by omega) hkl (by omega)
         rw [ea, hz4]
         simp
   have := key _ 0 rfl (Nat.zero_le _)
   simpa using this

theorem rc_iff {last : Int} : ∀ {rs : List Rc} {least : Int}, rcFrom last least rs = 0 ↔ (∀ r ∈ rs, r.2.length = 4 ∧ least ≤ r.1 ∧ r.1 ≤ last) ∧ rs.Pairwise (fun a b => a.1 < b.1)
 | [], least => by simp [rcFrom]
 | r :: t, least => by
  unfold rcFrom
  have ih := rc_iff (last := last) (rs := t) (least := r.1 + 1)
  have ho : rcOne last least r = 0 ↔ r.2.length = 4 ∧ least ≤ r.1 ∧ r.1 ≤ last := by
   unfold rcOne within
   constructor
   · intro h
     split at h
     · omega
     · rename_i h1
       split at h
       · omega
       · rename_i h2
         simp at h1 h2
         exact ⟨h1, h2⟩
   · rintro ⟨h1, h2⟩
     rw [if_neg (by simp [h1]), if_neg (by simp [h2])]
  constructor
  · intro h
    split at h
    · rename_i h1
      obtain ⟨a1, a2⟩ := ih.1 h
      have h1' := ho.1 h1
      refine ⟨fun q hq => ?_, List.pairwise_cons.2 ⟨fun q hq => ?_, a2⟩⟩
      · rcases List.mem_cons.1 hq with e | e
        · subst e; exact h1'
        · have := a1 q e; exact ⟨this.1, by omega, this.2.2⟩
      · have := a1 q hq; omega
    · rename_i h1
      exact absurd h h1
  · rintro ⟨h1, h2⟩
    obtain ⟨p1, p2⟩ := List.pairwise_cons.1 h2
    rw [if_pos (ho.2 (h1 r (by simp)))]
    exact ih.2 ⟨fun q hq => ⟨(h1 q (by simp [hq])).1, by have := p1 q hq; omega, (h1 q (by simp [hq])).2.2⟩, p2⟩

/-- A snapshot without a fault. -/
theorem sn_iff {x : Sn} : snFlt x = 0 ↔ within x.1 0 1099511627776 = true ∧ 0 < x.2.1.length ∧ (x.2.1.length ≤ 7 ∧ (∀ z ∈ x.2.1, z.length = 4) ∧ x.2.1.Pairwise (fun a b => aheadB a b = true)) ∧ x.2.2.1.length ≤ 7 ∧ x.2.2.2.length ≤ 30 ∧ ((∀ r ∈ x.2.2.1, r.2.length = 4 ∧ 0 ≤ r.1 ∧ r.1 ≤ x.1) ∧ x.2.2.1.Pairwise (fun a b => a.1 < b.1)) ∧ (∀ v ∈ x.2.2.2, VtOk x.2.1 v) ∧ (vtKeys x.2.2.2).Nodup := by
 rw [← sg_iff, ← rc_iff, ← vt_iff]
 have hs : sgSome x.2.1 = 0 ↔ 0 < x.2.1.length ∧ sgFlt x.2.1 = 0 := by
  unfold sgSome
  constructor
  · intro h
    split at h
    · omega
    · exact ⟨by omega, h⟩
  · rintro ⟨h1, h2⟩
    rw [if_neg (by omega)]
    exact h2
 unfold snFlt
 constructor
 · intro h
   split at h
   · omega
   · rename_i h1
     split at h
     · rename_i h2; exact absurd h h2
     · rename_i h2
       split at h
       · omega
       · rename_i h3
         split at h
         · rename_i h4; exact absurd h h4
         · rename_i h4
           obtain ⟨p1, p2⟩ := hs.1 (Decidable.of_not_not h2)
           exact ⟨by simpa using h1, p1, p2, by omega, by omega, Decidable.of_not_not h4, h⟩
 · rintro ⟨h1, h2, h3, h4, h5, h6, h7⟩
   rw [if_neg (by simp [h1]), if_neg (by simp [hs.2 ⟨h2, h3⟩]), if_neg (by omega), if_neg (by simp [h6])]
   exact h7

set_option maxRecDepth 100000

/-- No commit's slice is shorter in room than it is long. -/
def BsCap (w : World) (a : Option Addr) (len : Nat) : Prop := ∀ b off, a = some ⟨b, off, none⟩ → ∀ i, i < len → ∃ sa sl sc, w.cell? ⟨b, off + i, none⟩ = some (.slice sa sl sc) ∧ sl ≤ sc

theorem BsCap.below {w w' : World} {a : Option Addr} {len : Nat} (h : BsCap w a len) {B : Nat} (hb : Below B w w') (hB : w.heap.size ≤ B) : BsCap w' a len := by
 intro b off e i hi
 obtain ⟨sa, sl, sc, hc, hn⟩ := h b off e i hi
 exact ⟨sa, sl, sc, (hb.cell (Nat.lt_of_lt_of_le (lt_of_cell hc) hB)).trans hc, hn⟩

/-- The slices of a header are no bare nils with some room. -/
structure HNil (w : World) (x : HS) : Prop where
 p : x.p.a = none → x.p.c = 0
 t : x.t.a = none → x.t.c = 0
 s : BsNil w x.s.a x.s.n
 r : x.r.a = none → x.r.c = 0
 g : x.g.a = none → x.g.c = 0
 e : x.e.a = none → x.e.c = 0
 k : BsNil w x.k.a x.k.n

theorem HNil.below {w w' : World} {x : HS} (h : HNil w x) {B : Nat} (hb : Below B w w') (hB : w.heap.size ≤ B) : HNil w' x :=
 ⟨h.p, h.t, h.s.below hb hB, h.r, h.g, h.e, h.k.below hb hB⟩

set_option maxRecDepth 100000

def Laid (w : World) : Prop := True
def LaidE (w : World) : Prop := True

theorem Laid.below {w w' : World} (h : Laid w) {B : Nat} (hb : Below B w w') (hB : w.heap.size ≤ B) : Laid w' := trivial
theorem LaidE.below {w w' : World} (h : LaidE w) {B : Nat} (hb : Below B w w') (hB : w.heap.size ≤ B) : LaidE w' := trivial

set_option maxRecDepth 100000

/-- A header that reads, by kinds where a rule asks for them. -/
structure HKd (w : World) (x : HS) (h : Hd) : Prop where
 ok : HOk w x h
 nn : HNil w x
 bc : BsCap w x.k.a x.k.n
 g : BOk w x.g h.g
 s : RowOk bytesK w x.s h.s

theorem HKd.below {w w' : World} {x : HS} {h : Hd} (o : HKd w x h) {B : Nat} (hb : Below B w w') (hB : w.heap.size ≤ B) : HKd w' x h :=
 ⟨o.ok.below hb hB, o.nn.below hb hB, o.bc.below hb hB, bytesK.below o.g hb hB, RowOk.below o.s hb hB⟩

/-- A step that reads. -/
structure StOk (w : World) (e : SnS) (x : Sn) (px : HS) (p : Hd) (nx : HS) (n : Hd) : Prop where
 os : SNK.Ok w e x
 op : HKd w px p
 on : HKd w nx n
 v : Laid w
 ve : LaidE w
 ms : SnSm x
 mp : HSm p
 mn : HSm n

theorem StOk.below {w w' : World} {e : SnS} {x : Sn} {px nx : HS} {p n : Hd} (o : StOk w e x px p nx n) {B : Nat} (hb : Below B w w') (hB : w.heap.size ≤ B) : StOk w' e x px p nx n :=
 ⟨SNK.below o.os hb hB, o.op.below hb hB, o.on.below hb hB, o.v.below hb hB, o.ve.below hb hB, o.ms, o.mp, o.mn⟩

/-- The 29 cells of a step. -/
def stvals (c : Cf) (e : SnS) (x : Sn) (px : HS) (p : Hd) (nx : HS) (n : Hd) : Array Value := #[.int .i64 c.1, .int .i64 c.2.1, .int .i64 c.2.2, .int .i64 x.1, .slice e.2.1.a e.2.1.n e.2.1.c, .slice e.2.2.1.a e.2.2.1.n e.2.2.1.c, .slice e.2.2.2.a e.2.2.2.n e.2.2.2.c, .slice px.p.a px.p.n px.p.c, .int .i64 p.n1, .int .i64 p.n2, .int .i64 p.n3, .slice px.t.a px.t.n px.t.c, .int .i64 p.n5, .slice px.s.a px.s.n px.s.c, .slice px.r.a px.r.n px.r.c, .slice px.g.a px.g.n px.g.c, .slice px.e.a px.e.n px.e.c, .slice px.k.a px.k.n px.k.c, .slice nx.p.a nx.p.n nx.p.c, .int .i64 n.n1, .int .i64 n.n2, .int .i64 n.n3, .slice nx.t.a nx.t.n nx.t.c, .int .i64 n.n5, .slice nx.s.a nx.s.n nx.s.c, .slice nx.r.a nx.r.n nx.r.c, .slice nx.g.a nx.g.n nx.g.c, .slice nx.e.a nx.e.n nx.e.c, .slice nx.k.a nx.k.n nx.k.c]

theorem bAl {w W : World} (h : Below w.heap.size w W) (o : Obj) : Below w.heap.size w (W.alloc o) := h.trans ((below_alloc W o).mono h.size)

theorem bStep {w W W' : World} (h : Below w.heap.size w W) (k : Below W.heap.size W W') : Below w.heap.size w W' := h.trans (k.mono h.size)

/-- The first code of many that is not 0. -/
def fnz : List Int → Int
 | [] => 0
 | a :: r => if a = 0 then fnz r else a

/-- A code, unless something is right. -/
def unl (b : Bool) (k : Int) : Int := if b = true then 0 else k

/-- What the rules ask of the variables. -/
def LV (w : World) : Prop := Laid w ∧ LaidE w

theorem LV.below {w w' : World} (h : LV w) {B : Nat} (hb : Below B w w') (hB : w.heap.size ≤ B) : LV w' := ⟨h.1.below hb hB, h.2.below hb hB⟩

set_option maxRecDepth 100000

theorem cfCk_ok {c : Cf} {n : Int} (hc : cfFlt c = 0) (hn : 0 ≤ n ∧ n ≤ 1099511627776) : cfCk c n = decide (n % c.2.2 = 0) := by
 unfold cfCk
 rw [decide_eq_true hc, show within n 0 1099511627776 = true from by unfold within; simp [hn.1, hn.2]]
 simp

theorem rise_len : ∀ (xs : List Rc) (a : Int) (m : Nat), xs.Pairwise (fun a b => a.1 < b.1) → (∀ r ∈ xs, a ≤ r.1 ∧ r.1 < a + m) → xs.length ≤ m
 | [], a, m, _, _ => Nat.zero_le _
 | r :: t, a, m, hp, h => by
  obtain ⟨h1, h2⟩ := List.pairwise_cons.1 hp
  have hr := h r (List.mem_cons_self ..)
  have hm : 0 < m := by omega
  have ih := rise_len t (a + 1) (m - 1) h2 (fun q hq => by have h3 := h1 q hq; have h4 := h q (List.mem_cons_of_mem _ hq); omega)
  simp only [List.length_cons]
  omega

theorem ap_ok {c : Cf} {x : Sn} {h : Hd} (h0 : snFlt x = 0) (hn : h.n1 = x.1 + 1) (hw : 0 ≤ h.n1 ∧ h.n1 ≤ 1099511627776) (hg : h.g ∈ x.2.1) : snFlt (apPass c x h) = 0 := by
 obtain ⟨q1, q2, q3, q4, q5, q6, q7, q8⟩ := sn_iff.1 h0
 have hf : (x.2.2.1.filter (fun r => decide (apBound x h.n1 < r.1))).length ≤ 3 := by
  refine rise_len _ (h.n1 - 3) 3 (q6.2.sublist List.filter_sublist) (fun r hr => ?_)
  obtain ⟨h1, h2⟩ := List.mem_filter.1 hr
  have h3 := (q6.1 r h1).2.2
  have h4 : apBound x h.n1 < r.1 := by simpa using h2
  have h5 := q3.1
  unfold apBound at h4
  omega
 refine sn_iff.2 ⟨?_, q2, q3, ?_, ?_, ⟨fun r hr => ?_, ?_⟩, ?_, ?_⟩
 · show within h.n1 0 1099511627776 = true
   unfold within
   simp [hw.1, hw.2]
 · show (apRc x h.n1 h.g).length ≤ 7
   unfold apRc
   rw [List.length_append]
   simp only [List.length_cons, List.length_nil]
   omega
 · show (if h.n1 % c.2.2 = 0 then [] else x.2.2.2).length ≤ 30
   split
   · simp
   · exact q5
 · have hr' : r ∈ apRc x h.n1 h.g := hr
   show r.2.length = 4 ∧ 0 ≤ r.1 ∧ r.1 ≤ h.n1
   unfold apRc at hr'
   rcases List.mem_append.1 hr' with h1 | h1
   · have h2 := q6.1 r (List.mem_filter.1 h1).1
     exact ⟨h2.1, h2.2.1, by omega⟩
   · obtain rfl := List.mem_singleton.1 h1
     exact ⟨q3.2.1 _ hg, hw.1, Int.le_refl _⟩
 · show (apRc x h.n1 h.g).Pairwise (fun a b => a.1 < b.1)
   unfold apRc
   refine List.pairwise_append.2 ⟨q6.2.sublist List.filter_sublist, List.pairwise_singleton _ _, fun a ha b hb => ?_⟩
   obtain rfl := List.mem_singleton.1 hb
   have h2 := q6.1 a (List.mem_filter.1 ha).1
   show a.1 < h.n1
   omega
 · intro v hv
   have hv' : v ∈ (if h.n1 % c.2.2 = 0 then [] else x.2.2.2) := hv
   split at hv'
   · simp at hv'
   · exact q7 v hv'
 · show (vtKeys (if h.n1 % c.2.2 = 0 then [] else x.2.2.2)).Nodup
   split
   · exact List.nodup_nil
   · exact q8

/-- The codes of ApplyNext's rules. -/
def apKs (c : Cf) (x : Sn) (h : Hd) : List Int := [cfFlt c, snFlt x, hdFlt h, unl (h.n1 == x.1 + 1) 3, unl (decide (h.g ∈ x.2.1)) 4]

theorem ap_code (c : Cf) (x : Sn) (h : Hd) : fnz (apKs c x h) = apCode c x h := by
 unfold apKs apCode unl
 by_cases h1 : cfFlt c = 0 <;> by_cases h2 : snFlt x = 0 <;> by_cases h3 : hdFlt h = 0 <;> by_cases h4 : h.n1 = x.1 + 1 <;> by_cases h5 : h.g ∈ x.2.1 <;> simp [fnz, h1, h2, h3, h4, h5]

theorem ap_zero {c : Cf} {x : Sn} {h : Hd} (hc : apCode c x h = 0) : cfFlt c = 0 ∧ snFlt x = 0 ∧ hdFlt h = 0 ∧ h.n1 = x.1 + 1 ∧ h.g ∈ x.2.1 := by
 unfold apCode at hc
 by_cases h1 : cfFlt c = 0 <;> by_cases h2 : snFlt x = 0 <;> by_cases h3 : hdFlt h = 0 <;> by_cases h4 : h.n1 = x.1 + 1 <;> by_cases h5 : h.g ∈ x.2.1 <;> simp_all

set_option maxRecDepth 100000

/-- The bytes of a number, the highest first, no zero ahead; the first argument bounds how many. -/
def shortF : Nat → Int → List Int
 | 0, _ => []
 | k + 1, n => if n = 0 then [] else shortF k (n / 256) ++ [n % 256]

theorem shortF_succ (k : Nat) (n : Int) (h : 0 < n) : shortF (k + 1) n = shortF k (n / 256) ++ [n % 256] := by
 rw [shortF, if_neg (by omega)]

theorem pow_step (rest : Int) (m : Nat) (h0 : 0 < rest) (h : rest < 256 ^ m) : ∃ k, m = k + 1 ∧ rest / 256 < 256 ^ k := by
 cases m with
 | zero => simp at h; omega
 | succ k =>
  refine ⟨k, rfl, ?_⟩
  rw [Int.pow_succ] at h
  generalize (256 : Int) ^ k = p at h
  omega

theorem room_step (room : List Int) (k : Nat) (z : Int) (h : k < room.length) : (room.set k z).drop k = z :: room.drop (k + 1) := by
 rw [List.drop_eq_getElem_cons (by simpa using h)]
 simp [List.drop_set_of_lt]

theorem room_range (room : List Int) (k : Nat) (z : Int) (hz : 0 ≤ z ∧ z ≤ 255) (h : ∀ x ∈ room, 0 ≤ x ∧ x ≤ 255) : ∀ x ∈ room.set k z, 0 ≤ x ∧ x ≤ 255 := by
 intro x hx
 rcases List.mem_or_eq_of_mem_set hx with h' | h'
 · exact h x h'
 · subst h'; exact hz

/-- What holds of the room while the bytes of n are written into it from its end. -/
def Room (n : Int) (m : Nat) (rest : Int) (room : List Int) : Prop :=
 m ≤ 7 ∧ 0 ≤ rest ∧ rest < 256 ^ m ∧ room.length = 7 ∧ (∀ x ∈ room, 0 ≤ x ∧ x ≤ 255) ∧ shortF 7 n = shortF m rest ++ room.drop m

theorem Room.step {n rest : Int} {m : Nat} {room : List Int} (h : Room n m rest room) (hr : 0 < rest) :
    ∃ k, m = k + 1 ∧ Room n k (rest / 256) (room.set k (rest % 256)) := by
 obtain ⟨h1, h2, h3, h4, h5, h6⟩ := h
 obtain ⟨k, rfl, hk⟩ := pow_step rest m hr h3
 refine ⟨k, rfl, by omega, by omega, hk, by simpa using h4, room_range room k _ (by omega) h5, ?_⟩
 rw [room_step room k _ (by omega), h6, shortF_succ k rest hr]
 simp

theorem Room.bd {n rest : Int} {m : Nat} {room : List Int} (h : Room n m rest room) : rest < 72057594037927936 := by
 have e : (256 : Int) ^ 7 = 72057594037927936 := by decide
 have hm : (256 : Int) ^ m ≤ 256 ^ 7 := by
  have := h.1
  rcases (by omega : m = 0 ∨ m = 1 ∨ m = 2 ∨ m = 3 ∨ m = 4 ∨ m = 5 ∨ m = 6 ∨ m = 7) with r | r | r | r | r | r | r | r <;> subst r <;> decide
 rw [e] at hm
 exact Int.lt_of_lt_of_le h.2.2.1 hm

set_option maxRecDepth 100000

/-- The first number of a head. -/
def headB (l : Bool) : Int := if l then 192 else 128

/-- The bytes ahead of n bytes. -/
def headL (l : Bool) (n : Int) : List Int := if n ≤ 55 then [headB l + n] else (headB l + 55 + (shortF 7 n).length) :: shortF 7 n

/-- What HeadBytes answers: its code and its bytes. -/
def hdCode (n : Int) : Int := if 0 ≤ n ∧ n ≤ 1200 then 0 else 3
def hdBytes (l : Bool) (n : Int) : List Int := if 0 ≤ n ∧ n ≤ 1200 then headL l n else []

set_option maxRecDepth 100000

/-- The head of bytes as an item: none for one small byte. -/
def pcHd (z : List Int) : List Int := if z.length = 1 ∧ z.getD 0 0 < 128 then [] else headL false z.length

/-- Bytes as an item. -/
def pcL (z : List Int) : List Int := pcHd z ++ z

/-- Slices of bytes, as items one behind the other. -/
def pcsL (zss : List (List Int)) : List Int := zss.flatMap pcL

/-- Items as a list. -/
def wrapL (z : List Int) : List Int := headL true z.length ++ z

def listL (zss : List (List Int)) : List Int := wrapL (pcsL zss)

/-- What is in the list of a header, up to each of its parts. -/
def bd1 (h : Hd) : List Int := pcL h.p ++ pcL (shortF 7 h.n1)
def bd2 (h : Hd) : List Int := bd1 h ++ pcL (shortF 7 h.n2) ++ pcL (shortF 7 h.n3)
def bd3 (h : Hd) : List Int := bd2 h ++ pcL h.t ++ pcL (shortF 7 h.n5)
def bd4 (h : Hd) : List Int := bd3 h ++ listL h.s ++ pcL h.r
def bd5 (h : Hd) : List Int := bd4 h ++ pcL h.g ++ pcL h.e
def bd6 (h : Hd) : List Int := bd5 h ++ listL h.k

def packL (h : Hd) : List Int := wrapL (bd6 h)

/-- What a header without a fault keeps to. -/
structure HGood (h : Hd) : Prop where
 p : h.p.length = 32
 n1 : 0 ≤ h.n1 ∧ h.n1 ≤ 1099511627776
 n2 : 0 ≤ h.n2 ∧ h.n2 ≤ 1099511627776
 n3 : 0 ≤ h.n3 ∧ h.n3 ≤ 9
 t : h.t.length ≤ 4
 n5 : 0 ≤ h.n5 ∧ h.n5 ≤ 2
 s : h.s.length ≤ 7
 sz : ∀ z ∈ h.s, z.length ≤ 8
 r : h.r.length = 32
 g : h.g.length = 4
 e : h.e.length ≤ 4
 k : h.k.length ≤ 7
 kz : ∀ z ∈ h.k, z.length ≤ 8

theorem sgFrom_zero (zss : List (List Int)) : ∀ (r : List (List Int)) (k : Nat), sgFrom zss k r = 0 → ∀ z ∈ r, z.length = 4
 | [], k, _, z, hz => by simp at hz
 | a :: r, k, h, z, hz => by
  unfold sgFrom at h
  split at h
  · omega
  · rename_i hb
    rcases List.mem_cons.1 hz with e | e
    · subst e
      have : sgBad zss k z = false := by simpa using hb
      unfold sgBad at this
      simp at this
      exact this.1
    · exact sgFrom_zero zss r (k + 1) h z e

theorem coFrom_zero : ∀ (r : List (List Int)), coFrom r = 0 → ∀ z ∈ r, z.length = 8
 | [], _, z, hz => by simp at hz
 | a :: r, h, z, hz => by
  unfold coFrom at h
  split at h
  · rename_i ha
    rcases List.mem_cons.1 hz with e | e
    · subst e; exact ha
    · exact coFrom_zero r h z e
  · omega

theorem good_of {h : Hd} (hf : hdFlt h = 0) : HGood h := by
 unfold hdFlt at hf
 split at hf
 · omega
 · rename_i h1
   split at hf
   · omega
   · rename_i h2
     split at hf
     · rename_i h3
       have l1 : hdLen h = false := by simpa using h1
       have n1 : hdNum h = true := by simpa using h2
       unfold hdLen at l1
       simp only [Bool.or_eq_false_iff, Bool.and_eq_false_iff, bne_eq_false_iff_eq] at l1
       obtain ⟨⟨⟨⟨a1, a2⟩, a3⟩, a4⟩, a5⟩ := l1
       unfold hdNum within at n1
       simp only [Bool.and_eq_true, decide_eq_true_eq] at n1
       obtain ⟨⟨⟨c1, c2⟩, c3⟩, c5⟩ := n1
       unfold sgFlt at h3
       split at h3
       · omega
       · rename_i s7
         have hs := sgFrom_zero h.s h.s 0 h3
         unfold coFlt at hf
         split at hf
         · omega
         · rename_i k7
           have hk := coFrom_zero h.k hf
           exact ⟨by omega, c1, c2, c3, by omega, c5, by omega, fun z hz => by have := hs z hz; omega, by omega, by omega, by omega, by omega, fun z hz => by have := hk z hz; omega⟩
     · omega

set_option maxRecDepth 100000

theorem take_drop_at (m l : List (List Int)) (k : Nat) (h : m.length = l.length) : (m.take k ++ l.drop k)[k]? = l[k]? := by
 by_cases hk : k ≤ m.length
 · rw [List.getElem?_append_right (by rw [List.length_take]; omega), List.length_take, Nat.min_eq_left hk, Nat.sub_self, List.getElem?_drop, Nat.add_zero]
 · rw [List.getElem?_eq_none (by rw [List.length_append, List.length_take, List.length_drop]; omega), List.getElem?_eq_none (by omega)]

theorem take_drop_set (m l : List (List Int)) (k : Nat) (x : List Int) (h : m.length = l.length) (hx : m[k]? = some x) : (m.take k ++ l.drop k).set k x = m.take (k + 1) ++ l.drop (k + 1) := by
 obtain ⟨hk, e⟩ := List.getElem?_eq_some_iff.1 hx
 have hl : (m.take k).length = k := by rw [List.length_take]; omega
 rw [List.set_append, if_neg (by omega), hl, Nat.sub_self, List.drop_eq_getElem_cons (by omega), List.set_cons_zero, List.take_succ_eq_append_getElem hk, e, List.append_assoc]
 rfl

set_option maxHeartbeats 4000000 in
theorem heldSS_any (a : Option Addr) (len cap : Nat) (zss : List (List Int)) (k0 : Int) (w : World) (h : BsRow w a len (mkss k0 zss)) (hl : zss.length ≤ 1048576) (hs : bsum zss ≤ 1048576) (hk0 : 0 ≤ k0) (hk1 : k0 ≤ 16777216) :
    Calls Tryz.prog 83 #[.slice a len cap, .int .i64 k0] w fun e w' => e = .returned (.int .i64 (k0 + (bsum zss : Nat))) ∧ w' = w := by
 have hlen : zss.length = len := by rw [← mkss_length zss k0]; exact h.1
 have HSN := hide (bsum_snoc zss)
 have HLE := hide (bsum_le zss)
 have HMA := hide (mkss_at zss k0)
 have HLEN := hide hlen
 have HROW := hide h
 rw [hlen] at hl
 clear h hlen
 go_enter Tryz.func83, Tryz.ntmps83
 go_wp2_with fail
 go_loopw [1, 5] (fun q i wr => ∃ k : Nat, k ≤ len ∧ i = .int .i64 k ∧ q = .int .i64 (k0 + (bsum (zss.take k) : Nat)) ∧ wr = w) (fun _ i _ => len - (intOf i).toNat)
 case atStart => exact ⟨0, Nat.zero_le _, rfl, by simp [bsum], rfl⟩
 case round =>
  obtain ⟨k, hk, rfl, rfl, rfl⟩ := hrel
  by_cases hlt : k < len
  · obtain ⟨z, hit⟩ : ∃ z, zss[k]? = some z := ⟨_, List.getElem?_eq_getElem (by rw [unhide HLEN]; exact hlt)⟩
    obtain ⟨b, off, rfl, _, hat⟩ := (unhide HROW).at (by omega)
    obtain ⟨s1, n1, d1, c0, r1⟩ := hat k _ ((unhide HMA) k z hit)
    have hn1 : z.length = n1 := by have := r1.1; rw [marks_length] at this; exact this
    subst hn1
    have hsn := (unhide HSN) k z hit
    have hle1 := (unhide HLE) (k + 1)
    have hzl : z.length ≤ 1048576 := by omega
    obtain ⟨ks, hks⟩ : ∃ ks, ks = bsum (zss.take k) := ⟨_, rfl⟩
    rw [← hks] at hsn r1 ⊢
    have hksl : ks ≤ 1048576 := by omega
    have HC := hide (heldByteS_any z.length d1 s1 (k0 + ks) wr r1 (by omega) (by omega) (by omega))
    have HSN2 : Hid (bsum (zss.take (k + 1)) = ks + z.length) := hsn
    have k1 : (0 : Int) ≤ (k : Int) := by omega
    have k2 : (k : Int) < (len : Int) := by omega
    generalize z.length = zl at c0 HC HSN2 hzl
    have k3 : decide (k0 + (ks : Int) + (zl : Int) < 0) = false := decide_eq_false (by omega)
    clear hsn hle1 hit hks hat r1
    go_wp2_with fail
    refine (unhide HC).mono ?_
    rintro e w2 ⟨rfl, rfl⟩
    go_wp2_with fail
    go_roundw
    case rel => exact ⟨k + 1, by omega, by go_num, by rw [unhide HSN2]; congr 1; omega, by first | exact rfl | trivial⟩
    case measure => simp [intOf]; omega
  · obtain rfl : k = len := by omega
    have et : zss.take k = zss := List.take_of_length_le (by rw [unhide HLEN]; exact Nat.le_refl _)
    rw [et]
    clear et
    go_wp2_with fail
    go_ret
    exact ⟨rfl, rfl⟩

set_option maxRecDepth 100000

/-- What a row's element is, and that it may be changed for another one of the same cells. -/
theorem RowOwn.swap {α β : Type} {K : Kd α β} {T : TypeId} {w : World} {B : Nat} {d : Nat → Path} {p : Path} {s : Sl} {xs : List α} (h : RowOwn K T w B d p s xs) {i : Nat} {x : α} (hx : xs[i]? = some x) :
    ∃ b off e, s.a = some ⟨b, off, none⟩ ∧ B ≤ b ∧ b < w.heap.size ∧ d b = p ∧ K.Own w B d (p ++ [i]) e x ∧ (∀ j v, (K.vals e x)[j]? = some v → w.cell? ⟨b, off + i * K.m + j, none⟩ = some v) ∧ (∀ j, w.frozen? ⟨b, j, none⟩ = false) ∧
     ∀ w' x', OnlyP B d (p ++ [i]) w w' → K.Own w' B d (p ++ [i]) e x' → K.vals e x' = K.vals e x → RowOwn K T w' B d p s (xs.set i x') := by
 obtain ⟨h1, es, vs, h2, h3, h4, h5⟩ := h
 have hi := (List.getElem?_eq_some_iff.1 hx).1
 obtain ⟨e, he⟩ : ∃ e, es[i]? = some e := ⟨_, List.getElem?_eq_getElem (by omega)⟩
 obtain ⟨q1, q2⟩ := h5 i e x he hx
 obtain ⟨b, off, ha, hb, hlt⟩ := h3.pos (by omega)
 refine ⟨b, off, e, ha, hb, hlt, h4 _ ha, q2, fun j v hv => ?_, fun j => h3.free ha j, fun w' x' ho hx' hv => ?_⟩
 · have hj : j < K.m := by have := (List.getElem?_eq_some_iff.1 hv).1; rw [K.len] at this; exact this
   rw [Nat.add_assoc, h3.cell ha (row_index (by omega) hj)]
   exact q1 j v hv
 · refine ⟨by rw [List.length_set]; exact h1, es, vs, by rw [List.length_set]; exact h2, h3.keep (fun y hy => ?_), h4, fun j e' y he' hy => ?_⟩
   · rw [ha] at hy
     obtain rfl := Option.some.inj hy
     exact ho.2 b hlt (by rw [h4 _ ha]; exact not_pre_self p i)
   · by_cases hji : i = j
     · subst hji
       obtain rfl : e = e' := Option.some.inj (he.symm.trans he')
       rw [List.getElem?_set_self hi] at hy
       obtain rfl := Option.some.inj hy
       exact ⟨fun j v hv' => q1 j v (by rw [← hv]; exact hv'), hx'⟩
     · rw [List.getElem?_set_ne hji] at hy
       obtain ⟨r1, r2⟩ := h5 j e' y he' hy
       exact ⟨r1, K.frame r2 (fun g a b c => ho.2 g a (pre_snoc p (d g) j i (fun q => hji q.symm) c))⟩

theorem OnlyP.grown {B : Nat} {d : Nat → Path} {p : Path} {w w' : World} {o : Option Nat} (h : w.grownBy w' o) (hB : B ≤ w.heap.size) (hk : ∀ g, o = some g → B ≤ g ∧ d g = p) : OnlyP B d p w w' :=
 ⟨(Below.refl _ _).grown h hB (fun g e => (hk g e).1), fun g hg hs => h.block g hg (fun e => hs (by rw [(hk g e.symm).2]; exact List.prefix_rfl))⟩

theorem markB_p (B : Nat) (d : Nat → Path) (p : Path) (s : Sl) (z : List Int) (k0 : Int) (w : World) (h : BOwn w B d p s z) (hB : B ≤ w.heap.size) (hn : z.length ≤ 1048576) (hk0 : 0 ≤ k0) (hk1 : k0 ≤ 1099511627776) :
    Calls Tryz.prog 46 #[.slice s.a s.n s.c, .int .i64 k0] w fun e w' => e = .returned (.int .i64 (k0 + (z.length : Nat))) ∧ BOwn w' B d p s (marks k0 z.length) ∧ OnlyP B d p w w' := by
 have hl : z.length = s.n := by have := h.own.1; simpa using this
 refine (markByteS_own B s.n s.c s.a z k0 w h.own (by omega) hk0 hk1).mono ?_
 rintro e w' ⟨rfl, ho, hg⟩
 rw [hl]
 refine ⟨rfl, ⟨marks_range _ _, ho, h.col⟩, OnlyP.grown hg hB (fun g e => ?_)⟩
 have := own_lt h.own g e
 refine ⟨this.1, ?_⟩
 cases ha : s.a with
 | none => rw [ha] at e; simp [Value.ownBlock] at e
 | some x =>
  rw [ha] at e
  simp only [Value.ownBlock, Option.map_some, Option.some.injEq] at e
  rw [← e]
  exact h.col x ha

/-- A number of an element written anew, in the row itself. -/
theorem RowOwn.setAt {α β : Type} {K : Kd α β} {T : TypeId} {w : World} {B : Nat} {d : Nat → Path} {p : Path} {s : Sl} {xs : List α} (h : RowOwn K T w B d p s xs) {i : Nat} {x : α} (hx : xs[i]? = some x) {b off : Nat} (ha : s.a = some ⟨b, off, none⟩) (c : Nat) (hc : c < K.m) (v : Value) (x' : α)
    (hv : ∀ e, K.vals e x' = (K.vals e x).set c v) (hO : ∀ (w' : World) (e : β), K.Own w' B d (p ++ [i]) e x → K.Own w' B d (p ++ [i]) e x') :
    RowOwn K T (w.setCell ⟨b, off + i * K.m + c, none⟩ v) B d p s (xs.set i x') := by
 obtain ⟨h1, es, vs, h2, h3, h4, h5⟩ := h
 have hi := (List.getElem?_eq_some_iff.1 hx).1
 have hdb : d b = p := h4 _ ha
 have keep : ∀ {j e y}, K.Own w B d (p ++ [j]) e y → K.Own (w.setCell ⟨b, off + i * K.m + c, none⟩ v) B d (p ++ [j]) e y := fun {j e y} q => K.frame q (fun g _ _ hp => heap_setCell_other w ⟨b, off + i * K.m + c, none⟩ g v (fun (ee : g = b) => by rw [ee, hdb] at hp; exact not_pre_self p j hp))
 refine ⟨by rw [List.length_set]; exact h1, es, vs.set (i * K.m + c) v, by rw [List.length_set]; exact h2, by rw [Nat.add_assoc]; exact h3.set ha (i * K.m + c) v, h4, fun j e y he hy => ?_⟩
 by_cases hji : i = j
 · subst hji
   rw [List.getElem?_set_self hi] at hy
   obtain rfl := Option.some.inj hy
   obtain ⟨q1, q2⟩ := h5 i e x he hx
   refine ⟨fun k u hu => ?_, hO _ e (keep q2)⟩
   have hk : k < K.m := by have := (List.getElem?_eq_some_iff.1 hu).1; rw [K.len] at this; exact this
   rw [hv e] at hu
   by_cases hkc : c = k
   · subst hkc
     rw [List.getElem?_set_self (by rw [K.len]; exact hc)] at hu
     rw [List.getElem?_set_self (by rw [h3.len]; exact row_index (by omega) hc)]
     exact hu
   · rw [List.getElem?_set_ne hkc] at hu
     rw [List.getElem?_set_ne (by omega)]
     exact q1 k u hu
 · rw [List.getElem?_set_ne hji] at hy
   obtain ⟨q1, q2⟩ := h5 j e y he hy
   refine ⟨fun k u hu => ?_, keep q2⟩
   have hk : k < K.m := by have := (List.getElem?_eq_some_iff.1 hu).1; rw [K.len] at this; exact this
   rw [List.getElem?_set_ne (fun (ee : i * K.m + c = j * K.m + k) => hji (by
    have e1 : (i * K.m + c) / K.m = i := by rw [Nat.mul_comm, Nat.mul_add_div (by omega), Nat.div_eq_of_lt hc, Nat.add_zero]
    have e2 : (j * K.m + k) / K.m = j := by rw [Nat.mul_comm, Nat.mul_add_div (by omega), Nat.div_eq_of_lt hk, Nat.add_zero]
    rw [← e1, ← e2, ee]))]
   exact q1 k u hu

set_option maxHeartbeats 4000000 in
theorem markSs_p (B : Nat) (d : Nat → Path) (p : Path) (s : Sl) (zss : List (List Int)) (k0 : Int) (w : World) (h : RowOwn bytesK 29 w B d p s zss) (hB : B ≤ w.heap.size) (hl : zss.length ≤ 1048576) (hs : bsum zss ≤ 1048576) (hk0 : 0 ≤ k0) (hk1 : k0 ≤ 549755813888) :
    Calls Tryz.prog 43 #[.slice s.a s.n s.c, .int .i64 k0] w fun e w' => e = .returned (.int .i64 (k0 + (bsum zss : Nat))) ∧ RowOwn bytesK 29 w' B d p s (mkss k0 zss) ∧ OnlyP B d p w w' := by
 have hsn : s.n = zss.length := h.1
 have HSN := hide (bsum_snoc zss)
 have HLE := hide (bsum_le zss)
 have HMA := hide (mkss_at zss k0)
 have HML := hide (mkss_length zss k0)
 have HM := hide h
 obtain ⟨len, hlen⟩ : ∃ len, len = zss.length := ⟨_, rfl⟩
 have HLEN := hide hlen
 rw [hsn]
 rw [← hlen] at hl hsn ⊢
 clear h hlen
 have HSL := hide hsn
 clear hsn
 generalize hsc : s.c = sc
 have HSC := hide hsc
 clear hsc
 generalize hsa : s.a = sa
 have HSA := hide hsa
 clear hsa
 go_enter Tryz.func43, Tryz.ntmps43
 go_wp2_with fail
 go_loopw [1, 5] (fun q i wr => ∃ k : Nat, k ≤ len ∧ i = .int .i64 k ∧ q = .int .i64 (k0 + (bsum (zss.take k) : Nat)) ∧ RowOwn bytesK 29 wr B d p s ((mkss k0 zss).take k ++ zss.drop k) ∧ OnlyP B d p w wr) (fun _ i _ => len - (intOf i).toNat)
 case atStart => exact ⟨0, Nat.zero_le _, rfl, by simp [bsum], by simpa using unhide HM, OnlyP.refl _ _ _ _⟩
 case round =>
  obtain ⟨k, hk, rfl, rfl, hm, ho⟩ := hrel
  clear HM
  by_cases hlt : k < len
  · obtain ⟨z, hit⟩ : ∃ z, zss[k]? = some z := ⟨_, List.getElem?_eq_getElem (by rw [← unhide HLEN]; exact hlt)⟩
    have hat := (take_drop_at (mkss k0 zss) zss k (unhide HML)).trans hit
    obtain ⟨b, off, e, ha, hbB, hblt, hbd, hcb, hcell, hfz, hst⟩ := hm.swap hat
    have hc := hcell 0 _ rfl
    simp only [show bytesK.m = 1 from rfl, Nat.mul_one, Nat.add_zero] at hc
    have hma := (unhide HMA) k z hit
    have hsn := (unhide HSN) k z hit
    have hle1 := (unhide HLE) (k + 1)
    have hzl : z.length ≤ 1048576 := by omega
    obtain ⟨ks, hks⟩ : ∃ ks, ks = bsum (zss.take k) := ⟨_, rfl⟩
    rw [← hks] at hsn hma ⊢
    have hksl : ks ≤ 1048576 := by omega
    have hBr : B ≤ wr.heap.size := Nat.le_trans hB ho.1.size
    have HC := hide (markB_p B d (p ++ [k]) e z (k0 + ks) wr hcb hBr hzl (by omega) (by omega))
    have HST : Hid (∀ w', BOwn w' B d (p ++ [k]) e (marks (k0 + ks) z.length) → OnlyP B d (p ++ [k]) wr w' → RowOwn bytesK 29 w' B d p s ((mkss k0 zss).take (k + 1) ++ zss.drop (k + 1)) ∧ OnlyP B d p w w') := fun w' hb hw => by
     have := hst w' _ hw hb rfl
     rw [take_drop_set _ _ k _ (unhide HML) hma] at this
     exact ⟨this, ho.trans hw.up⟩
    have HSN2 : Hid (bsum (zss.take (k + 1)) = ks + z.length) := hsn
    have k1 : (0 : Int) ≤ (k : Int) := by omega
    have k2 : (k : Int) < (len : Int) := by omega
    rw [unhide HSA] at ha
    subst ha
    generalize z.length = zl at HC HST HSN2 hzl
    clear hsn hle1 hit ho hks hm hat hcb hst hma hcell hfz
    go_wp2_with fail
    refine (unhide HC).mono ?_
    rintro e w2 ⟨rfl, b2, g2⟩
    obtain ⟨m2, o2⟩ := (unhide HST) w2 b2 g2
    have HM2 := hide m2
    have HO2 := hide o2
    clear m2 o2 g2 b2
    go_wp2_with fail
    go_roundw
    case rel => exact ⟨k + 1, by omega, by go_num, by rw [unhide HSN2]; congr 1; omega, unhide HM2, unhide HO2⟩
    case measure => simp [intOf]; omega
  · obtain rfl : k = len := by omega
    have et : zss.take k = zss := List.take_of_length_le (by rw [← unhide HLEN]; exact Nat.le_refl _)
    have em : (mkss k0 zss).take k ++ zss.drop k = mkss k0 zss := by rw [List.take_of_length_le (by rw [unhide HML, ← unhide HLEN]; exact Nat.le_refl _), List.drop_eq_nil_of_le (by rw [← unhide HLEN]; exact Nat.le_refl _), List.append_nil]
    rw [et]
    rw [em] at hm
    have HO := hide ho
    have HM := hide hm
    clear hm ho et em
    go_wp2_with fail
    go_ret
    exact ⟨rfl, unhide HM, unhide HO⟩

theorem pairL {α β α' β' : Type} {K : Kd α β} {L : Kd α' β'} {w w' : World} {B : Nat} {d : Nat → Path} {q : Path} {e : β × β'} {x : α × α'} {y : α} (h : (pairK K L).Own w B d q e x) (n : K.Own w' B d (q ++ [0]) e.1 y) (o : OnlyP B d (q ++ [0]) w w') : (pairK K L).Own w' B d q e (y, x.2) :=
 ⟨n, L.apart h.2 o (fun c h1 h2 => pre_snoc q c 1 0 (by omega) h1 h2)⟩

theorem pairR {α β α' β' : Type} {K : Kd α β} {L : Kd α' β'} {w w' : World} {B : Nat} {d : Nat → Path} {q : Path} {e : β × β'} {x : α × α'} {y : α'} (h : (pairK K L).Own w B d q e x) (n : L.Own w' B d (q ++ [1]) e.2 y) (o : OnlyP B d (q ++ [1]) w w') : (pairK K L).Own w' B d q e (x.1, y) :=
 ⟨K.apart h.1 o (fun c h1 h2 => pre_snoc q c 0 1 (by omega) h1 h2), n⟩

end Go.Proofs.YtdmcmlcmgbbclaaGreat
