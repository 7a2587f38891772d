/- What is proved here: the program's poll with the places of its votes: what it holds behind a vote that is put and behind one that is deleted; pollOf with places. -/
import Derived.Test.YtdmcmlcmgbbclaaGreatJ13
import Derived.Maps.OwnSet
import Derived.Deep.RegionHeld3
import Derived.Test.YtdmcmlcmgbbclaaGreatChecked
import Derived.Test.YtdmcmlcmgbbclaaGreatJ1
import Derived.WalkKit
import Derived.WalkLawsBesides
import Derived.WalkSmall
import Derived.KernelRfl
import Derived.Deep.RegionHeldLaw
import Derived.Sort.Grow
import Derived.Maps.RangeWalk
import Derived.Shelf.SlGeneric
import Derived.Shelf.SlLaysF0
import Derived.Test.YtdmcmlcmgbbclaaGreatProg
namespace Go.Proofs.YtdmcmlcmgbbclaaGreat
set_option linter.unusedVariables false
set_option linter.unusedSimpArgs false
open Go.RowKit
set_option maxRecDepth 100000

/-- Votes with their places. -/
abbrev Pv := List (Int × Vt)
def pvKeys (L : Pv) : List (List Int × List Int) := vtKeys (L.map Prod.snd)
def stD (p : Int) (b : Bool) : DataW Unit := .agg [.lit (.int .i64 p), .lit (.bool b)]

/-- What a poll reads as. -/
structure PvD (D : DataW Unit) (L : Pv) : Prop where
 has : ∀ s t, Adr s → Adr t → Maps.has D (klOf s t) = decide ((s, t) ∈ pvKeys L)
 at' : ∀ q ∈ L, ∀ zd, D.atKey (klOf q.2.1 q.2.2.1) zd = stD q.1 q.2.2.2
 size : Maps.size D = L.length
 adr : ∀ q ∈ L, Adr q.2.1 ∧ Adr q.2.2.1
 nodup : (pvKeys L).Nodup

theorem kl_ne {s t s' t' : List Int} (a : Adr s) (b : Adr t) (a' : Adr s') (b' : Adr t') (h : ¬ (s, t) = (s', t')) : klOf s t ≠ klOf s' t' := fun e => h (by
 obtain ⟨e1, e2⟩ := klOf_inj (by rw [a.1, a'.1]) a.2 b.2 a'.2 b'.2 e
 rw [e1, e2])

theorem pv_mem {L : Pv} {q : Int × Vt} (h : q ∈ L) : (q.2.1, q.2.2.1) ∈ pvKeys L := List.mem_map.2 ⟨q.2, List.mem_map.2 ⟨q, h, rfl⟩, rfl⟩

theorem PvD.empty : PvD (.map []) [] := ⟨fun s t _ _ => by simp [Maps.has, pvKeys, vtKeys], (fun q hq => by cases hq), rfl, (fun q hq => by cases hq), by simp [pvKeys, vtKeys]⟩

theorem PvD.put {D : DataW Unit} {L : Pv} (h : PvD D L) (ht : Maps.Tidy D) {s t : List Int} (a : Adr s) (b : Adr t) (hk : WideAt.IsKeyLit (klOf s t)) (hn : (s, t) ∉ pvKeys L) (p : Int) (add : Bool) : PvD (D.put (klOf s t) (stD p add)) (L ++ [(p, s, t, add)]) := by
 have hkeys : pvKeys (L ++ [(p, s, t, add)]) = pvKeys L ++ [(s, t)] := by simp [pvKeys, vtKeys]
 refine ⟨fun s' t' a' b' => ?_, fun q hq zd => ?_, ?_, fun q hq => ?_, ?_⟩
 · by_cases e : (s', t') = (s, t)
   · simp only [Prod.mk.injEq] at e
     obtain ⟨rfl, rfl⟩ := e
     rw [Maps.has_put_same ht.isMap hk, hkeys]
     simp
   · rw [Maps.has_put_other (kl_ne a' b' a b e), h.has s' t' a' b', hkeys]
     simp [e]
 · rcases List.mem_append.1 hq with hq | hq
   · have hne : ¬ (q.2.1, q.2.2.1) = (s, t) := fun e => hn (e ▸ pv_mem hq)
     rw [Maps.atKey_put_other (kl_ne (h.adr q hq).1 (h.adr q hq).2 a b hne)]
     exact h.at' q hq zd
   · simp at hq
     subst hq
     exact Maps.atKey_put_same ht.isMap hk _ zd
 · rw [Maps.size_put ht, h.has s t a b, decide_eq_false hn, h.size]
   simp
 · rcases List.mem_append.1 hq with hq | hq
   · exact h.adr q hq
   · simp at hq
     subst hq
     exact ⟨a, b⟩
 · rw [hkeys, List.nodup_append]
   refine ⟨h.nodup, by simp, fun x hx y hy => ?_⟩
   rintro rfl
   simp at hy
   subst hy
   exact hn hx

theorem nd {p : Prop} [Decidable p] : (!decide p) = true ↔ ¬ p := by simp

/-- The votes but that of one on another one. -/
def pvLess (L : Pv) (s t : List Int) : Pv := L.filter (fun q => !decide ((q.2.1, q.2.2.1) = (s, t)))

theorem pvKeys_filter (L : Pv) (f : Int × Vt → Bool) : (pvKeys (L.filter f)).Sublist (pvKeys L) := List.Sublist.map _ (List.Sublist.map _ List.filter_sublist)

theorem pv_keys {L : Pv} {x : List Int × List Int} : x ∈ pvKeys L ↔ ∃ q ∈ L, (q.2.1, q.2.2.1) = x := by
 unfold pvKeys vtKeys
 simp

theorem PvD.del {D : DataW Unit} {L : Pv} (h : PvD D L) (ht : Maps.Tidy D) {s t : List Int} (a : Adr s) (b : Adr t) : PvD (D.del (klOf s t)) (pvLess L s t) := by
 have hm : ∀ x, x ∈ pvKeys (pvLess L s t) ↔ x ∈ pvKeys L ∧ ¬ x = (s, t) := fun x => by
  rw [pv_keys, pv_keys]
  unfold pvLess
  constructor
  · rintro ⟨q, hq, rfl⟩
    obtain ⟨h1, h2⟩ := List.mem_filter.1 hq
    exact ⟨⟨q, h1, rfl⟩, nd.1 h2⟩
  · rintro ⟨⟨q, hq, rfl⟩, hn⟩
    exact ⟨q, List.mem_filter.2 ⟨hq, nd.2 hn⟩, rfl⟩
 refine ⟨fun s' t' a' b' => ?_, fun q hq zd => ?_, ?_, fun q hq => h.adr q (List.mem_filter.1 hq).1, List.Nodup.sublist (pvKeys_filter _ _) h.nodup⟩
 · by_cases e : (s', t') = (s, t)
   · have e' := e
     simp only [Prod.mk.injEq] at e
     obtain ⟨rfl, rfl⟩ := e
     rw [Maps.has_del_same]
     have : ¬ (s', t') ∈ pvKeys (pvLess L s' t') := fun hx => ((hm _).1 hx).2 rfl
     simp [this]
   · rw [Maps.has_del_other (kl_ne a' b' a b e), h.has s' t' a' b']
     exact decide_eq_decide.2 ⟨fun hx => (hm _).2 ⟨hx, e⟩, fun hx => ((hm _).1 hx).1⟩
 · obtain ⟨h1, h2⟩ := List.mem_filter.1 hq
   have hne : ¬ (q.2.1, q.2.2.1) = (s, t) := nd.1 h2
   rw [Maps.atKey_del_other (kl_ne (h.adr q h1).1 (h.adr q h1).2 a b hne)]
   exact h.at' q h1 zd
 · have hs := Maps.size_del (k := klOf s t) ht
   rw [h.has s t a b, h.size] at hs
   have key : (pvLess L s t).length + (if (s, t) ∈ pvKeys L then 1 else 0) = L.length := by
    have hn := h.nodup
    unfold pvLess pvKeys vtKeys at *
    clear hs hm h ht
    induction L with
    | nil => simp
    | cons q r ih =>
     simp only [List.map_cons, List.nodup_cons] at hn
     have ih' := ih hn.2
     by_cases e : (q.2.1, q.2.2.1) = (s, t)
     · have hnr : ¬ (s, t) ∈ List.map (fun v : Vt => (v.1, v.2.1)) (List.map Prod.snd r) := fun hx => hn.1 (e ▸ hx)
       rw [if_neg hnr] at ih'
       have hmem : (s, t) ∈ List.map (fun v : Vt => (v.1, v.2.1)) (List.map Prod.snd (q :: r)) := by simp only [List.map_cons]; rw [← e]; exact List.mem_cons_self
       rw [if_pos hmem, List.filter_cons_of_neg (by simp [e])]
       simp only [List.length_cons]
       omega
     · rw [List.filter_cons_of_pos (p := fun q : Int × Vt => !decide ((q.2.1, q.2.2.1) = (s, t))) (nd.2 e)]
       simp only [List.length_cons]
       by_cases hx : (s, t) ∈ List.map (fun v : Vt => (v.1, v.2.1)) (List.map Prod.snd r)
       · rw [if_pos hx] at ih'
         rw [if_pos (by simp only [List.map_cons]; exact List.mem_cons_of_mem _ hx)]
         omega
       · rw [if_neg hx] at ih'
         have hxx : ¬ (s, t) ∈ List.map (fun v : Vt => (v.1, v.2.1)) (List.map Prod.snd (q :: r)) := fun hy => by
          simp only [List.map_cons] at hy
          rcases List.mem_cons.1 hy with h' | h'
          · exact e h'.symm
          · exact hx h'
         rw [if_neg hxx]
         omega
   by_cases hx : (s, t) ∈ pvKeys L
   · rw [if_pos hx] at key
     rw [decide_eq_true hx] at hs
     simp at hs
     omega
   · rw [if_neg hx] at key
     rw [decide_eq_false hx] at hs
     simp at hs
     omega

def PollV (w : World) (g k : Nat) (L : Pv) : Prop := ∃ D : DataW Unit, w.ownsMap Tryz.prog 117 standR g k D ∧ PvD D L

theorem PollV.below {w w' : World} {g k B : Nat} {L : Pv} (h : PollV w g k L) (hb : Below B w w') (hB : w.heap.size ≤ B) : PollV w' g k L := by
 obtain ⟨D, h1, h2⟩ := h
 exact ⟨D, h1.kept (grown_of_below hb hB) (by simp), h2⟩

theorem PollV.ok {w : World} {g k : Nat} {L : Pv} (h : PollV w g k L) : PollOk w g k (pvKeys L) := by
 obtain ⟨D, h1, h2⟩ := h
 exact ⟨D, h1, h2.has⟩

theorem PollV.lt {w : World} {g k : Nat} {L : Pv} (h : PollV w g k L) : g < w.heap.size := h.ok.lt

theorem PollV.made (w : World) : PollV (w.alloc (.map #[] 0)) w.heap.size 0 [] := ⟨.map [], World.ownsMap_made w _ _ _, PvD.empty⟩

set_option maxHeartbeats 4000000 in
theorem putV_any (g k : Nat) (s t : Sl) (x y : List Int) (b : Bool) (pl : Int) (L : Pv) (w : World) (o : BOk w s x) (q : BOk w t y) (hx : x.length = 4) (hy : y.length = 4) (hp : PollV w g k L) (hnk : (x, y) ∉ pvKeys L) (hk : k < maxLen) :
    Calls Tryz.prog 103 #[.map (some g), .int .i64 pl, .agg #[.slice s.a s.n s.c, .slice t.a t.n t.c, .bool b]] w fun e w' => e = .returned (.tuple #[]) ∧ PollV w' g (k + 1) (L ++ [(pl, x, y, b)]) ∧ w.grownBy w' (some g) := by
 have HNK := hide hnk
 clear hnk
 have ax := adr_of o hx
 have ay := adr_of q hy
 obtain ⟨z0, z1, z2, z3, rfl, r0, r1, r2, r3⟩ := adr_four ax
 obtain ⟨y0, y1, y2, y3, rfl, t0, t1, t2, t3⟩ := adr_four ay
 have hkey := keyOf_ballot r0 r1 r2 r3 t0 t1 t2 t3
 have HB := hide (fun (W : World) (hb : Below w.heap.size w W) => ballotOf_any s t z0 z1 z2 z3 y0 y1 y2 y3 W (bytesK.below o hb (Nat.le_refl _)) (bytesK.below q hb (Nat.le_refl _)))
 have HP := hide (fun (W : World) (hb : Below w.heap.size w W) => hp.below hb (Nat.le_refl _))
 have ka := SBlk.new w #[.slice s.a s.n s.c, .slice t.a t.n t.c, .bool b] 97
 have ba := below_alloc w (.cells #[.slice s.a s.n s.c, .slice t.a t.n t.c, .bool b] 97)
 obtain ⟨W0, e0⟩ : ∃ W, w.alloc (.cells #[.slice s.a s.n s.c, .slice t.a t.n t.c, .bool b] 97) = W := ⟨_, rfl⟩
 rw [e0] at ka ba
 have c0 := ka.cell 0
 have c1 := ka.cell 1
 have c2 := ka.cell 2
 simp only [List.getElem?_cons_zero, List.getElem?_cons_succ] at c0 c1 c2
 have B0 := hide ba
 have HKA := hide (fun (W : World) (hb : Below W0.heap.size W0 W) => ka.below hb ka.lt)
 have hgw : some w.heap.size ≠ some g := fun e => by have := hp.lt; simp at e; omega
 clear o q hp r0 r1 r2 r3 t0 t1 t2 t3 hx hy ka ba
 go_enter Tryz.func103, Tryz.ntmps103
 go_wp2_with (rw [e0])
 try rw [e0]
 clear e0
 have HS : Hid (∀ W, Below W0.heap.size W0 W → W.cell? ⟨w.heap.size, 0, none⟩ = some (.slice s.a s.n s.c) ∧ W.cell? ⟨w.heap.size, 1, none⟩ = some (.slice t.a t.n t.c) ∧ W.cell? ⟨w.heap.size, 2, none⟩ = some (.bool b)) := fun W hb => by
  have k := (unhide HKA) W hb
  exact ⟨k.cell 0, k.cell 1, k.cell 2⟩
 go_region_held3 (fun W => W.cell? ⟨w.heap.size, 0, none⟩ = some (.slice s.a s.n s.c) ∧ W.cell? ⟨w.heap.size, 1, none⟩ = some (.slice t.a t.n t.c) ∧ W.cell? ⟨w.heap.size, 2, none⟩ = some (.bool b))
  (first | exact S2 | exact (unhide HS) _ (by first | assumption | exact Below.refl _ _ | exact (Below.refl W0.heap.size W0).drew | exact below_drewN (Below.refl W0.heap.size W0) _))
  (first
  | (go_at_call 76; refine ((unhide HB) _ (by first | exact unhide B0 | exact (unhide B0).drew | exact below_drewN (unhide B0) _)).mono ?_; rintro e w1 ⟨rfl, b1⟩; have HB1 := hide (Below.trans (by first | exact unhide B0 | exact (unhide B0).drew | exact below_drewN (unhide B0) _) (b1.mono (by first | exact (unhide B0).size | exact (below_drewN (unhide B0) _).size)) : Below w.heap.size w w1); obtain ⟨D, hown, hhas⟩ := (unhide HP) w1 (unhide HB1); obtain ⟨w2, hrun, hown2, hgrow2⟩ := hown.update ballotLaw Tryz.underlying106 hk hkey (standR_mk pl b); have HH := hide (And.intro hhas (And.intro hown (And.intro hown2 hgrow2))); have d2 := ((unhide HKA) w1 (by first | exact b1 | exact Below.trans (below_drewN (Below.refl W0.heap.size W0) _) b1 | exact Below.trans ((Below.refl W0.heap.size W0).drew) b1)).cell 2; simp only [List.getElem?_cons_zero, List.getElem?_cons_succ] at d2; have J1 : Below W0.heap.size W0 w1 := (by first | exact b1 | exact Below.trans (below_drewN (Below.refl W0.heap.size W0) _) b1 | exact Below.trans ((Below.refl W0.heap.size W0).drew) b1); have S1 := (unhide HS) w1 J1; have S2 : w2.cell? ⟨w.heap.size, 0, none⟩ = some (.slice s.a s.n s.c) ∧ w2.cell? ⟨w.heap.size, 1, none⟩ = some (.slice t.a t.n t.c) ∧ w2.cell? ⟨w.heap.size, 2, none⟩ = some (.bool b) := (And.intro (hgrow2.cell S1.1 hgw) (And.intro (hgrow2.cell S1.2.1 hgw) (hgrow2.cell S1.2.2 hgw))); clear hhas hown hown2 hgrow2 b1 S1))
 all_goals
  go_wp2_with fail
  obtain ⟨hhas, hown, hown2, hgrow2⟩ := unhide HH
  refine bodyPost_end (v := .tuple #[]) (by simp [results, Tryz.results103]) rfl ⟨rfl, ⟨_, hown2, hhas.put (hown.tidy ballotLaw) ax ay (ballotLaw.key hkey) (unhide HNK) pl b⟩, ?_⟩
  · exact ⟨hgrow2.os.trans (unhide HB1).os, hgrow2.tape.trans (unhide HB1).tape, hgrow2.output.trans (unhide HB1).output, Nat.le_trans (unhide HB1).size hgrow2.size, fun q hq hne => (hgrow2.block q (Nat.lt_of_lt_of_le hq (unhide HB1).size) hne).trans ((unhide HB1).block q hq)⟩

/-- Votes each with its place in the list. -/
def placed (vs : List Vt) : Pv := vs.mapIdx (fun i v => ((i : Int), v))

theorem placed_snd (vs : List Vt) : (placed vs).map Prod.snd = vs := by
 unfold placed
 apply List.ext_getElem?
 intro i
 simp
 cases vs[i]? <;> rfl

theorem placed_keys (vs : List Vt) : pvKeys (placed vs) = vtKeys vs := by unfold pvKeys; rw [placed_snd]

theorem placed_snoc (vs : List Vt) (k : Nat) (v : Vt) (h : vs[k]? = some v) : placed (vs.take (k + 1)) = placed (vs.take k) ++ [((k : Int), v.1, v.2.1, v.2.2)] := by
 obtain ⟨hk, e⟩ := List.getElem?_eq_some_iff.1 h
 unfold placed
 rw [List.take_succ_eq_append_getElem hk, List.mapIdx_append, e]
 simp [List.length_take]
 omega

theorem placed_new {vs : List Vt} (h : (vtKeys vs).Nodup) {k : Nat} {v : Vt} (hv : vs[k]? = some v) : (v.1, v.2.1) ∉ pvKeys (placed (vs.take k)) := by
 rw [placed_keys]
 intro hm
 have e : vtKeys vs = vtKeys (vs.take (k + 1)) ++ vtKeys (vs.drop (k + 1)) := by unfold vtKeys; rw [← List.map_append, List.take_append_drop]
 rw [e, vtKeys_snoc vs k v hv] at h
 exact (List.nodup_append.1 (List.nodup_append.1 h).1).2.2 _ hm _ (by simp) rfl

set_option maxHeartbeats 4000000 in
theorem pollV_any (vS : Sl) (vs : List Vt) (w : World) (o : RowOk vtK w vS vs) (hl : vs.length ≤ 30) (h4 : ∀ v ∈ vs, v.1.length = 4 ∧ v.2.1.length = 4) (hnd : (vtKeys vs).Nodup) :
    Calls Tryz.prog 68 #[.slice vS.a vS.n vS.c] w fun e w' => e = .returned (.map (some w.heap.size)) ∧ PollV w' w.heap.size vs.length (placed vs) ∧ Below w.heap.size w w' := by
 obtain ⟨a, len, cap⟩ := vS
 have hil : len = vs.length := o.len
 have HR := hide (fun hp => RowOk.pos o hp)
 have HL := hide hil
 have hln : len ≤ 30 := by omega
 have H4 := hide h4
 have hmm := @run_makeMap Tryz.prog
 have HND := hide hnd
 clear o hil hl h4 hnd
 go_enter Tryz.func68, Tryz.ntmps68
 go_wp2_with fail
 go_loopw [9] (fun i wr => ∃ k : Nat, k ≤ len ∧ i = .int .i64 k ∧ PollV wr w.heap.size k (placed (vs.take k)) ∧ Below w.heap.size w wr) (fun i _ => len - (intOf i).toNat)
 case atStart => exact ⟨0, Nat.zero_le _, rfl, by simpa [placed] using PollV.made w, (Below.refl _ _).alloc (Nat.le_refl _) _⟩
 case round =>
  obtain ⟨k, hk, rfl, hpoll, hbr⟩ := hrel
  by_cases hlt : k < len
  · obtain ⟨b, off, ea, hb, hc⟩ := (unhide HR) (by show 0 < len; omega)
    subst ea
    obtain ⟨v, hv⟩ : ∃ v, vs[k]? = some v := ⟨_, List.getElem?_eq_getElem (by rw [← unhide HL]; exact hlt)⟩
    obtain ⟨⟨s, t, ⟨⟩⟩, c, oo⟩ := hc k v hv
    have hsn := placed_snoc vs k v hv
    have hnew := placed_new (unhide HND) hv
    have h44 := (unhide H4) v (List.mem_of_getElem? hv)
    obtain ⟨x, y, bb⟩ := v
    have c0 := (hbr.cell (p := ⟨b, off + k * vtK.m + 0, none⟩) hb).trans (c 0 _ rfl)
    have c1 := (hbr.cell (p := ⟨b, off + k * vtK.m + 1, none⟩) hb).trans (c 1 _ rfl)
    have c2 := (hbr.cell (p := ⟨b, off + k * vtK.m + 2, none⟩) hb).trans (c 2 _ rfl)
    simp only [Nat.add_zero, show vtK.m = 3 from rfl] at c0 c1 c2
    have ox := bytesK.below oo.1 hbr (Nat.le_refl _)
    have oy := bytesK.below oo.2.1 hbr (Nat.le_refl _)
    have HU := hide (fun (W : World) (hb : Below wr.heap.size wr W) => putV_any w.heap.size k s t x y bb k (placed (vs.take k)) W (bytesK.below ox hb (Nat.le_refl _)) (bytesK.below oy hb (Nat.le_refl _)) h44.1 h44.2 (hpoll.below hb (Nat.le_refl _)) hnew (by unfold maxLen; omega))
    have HSN := hide hsn
    have HB := hide hbr
    have i1 : (0 : Int) ≤ (k : Int) := by omega
    have i2 : (k : Int) < (len : Int) := by omega
    clear hc c oo ox oy hsn hpoll hbr hv h44 hnew
    go_wp2_with fail
    have ba := below_alloc wr (.cells #[.slice s.a s.n s.c, .slice t.a t.n t.c, .bool bb] 97)
    refine ((unhide HU) _ ba).mono ?_
    rintro e w2 ⟨rfl, p2, g2⟩
    have B2 := hide (((unhide HB).trans (ba.mono (unhide HB).size)).grown g2 ((unhide HB).trans (ba.mono (unhide HB).size)).size (fun q e => by cases e; exact Nat.le_refl _))
    have P2 := hide p2
    clear p2 g2 ba
    go_wp2_with fail
    go_roundw
    case rel => exact ⟨k + 1, by omega, by go_num, by rw [unhide HSN]; exact unhide P2, unhide B2⟩
    case measure => simp [intOf]; omega
  · obtain rfl : k = len := by omega
    rw [List.take_of_length_le (by rw [← unhide HL]; exact Nat.le_refl _)] at hpoll
    have HP := hide hpoll
    have HB := hide hbr
    clear hpoll hbr
    go_wp2_with fail
    go_ret
    exact ⟨rfl, by rw [← unhide HL]; exact unhide HP, unhide HB⟩

set_option maxRecDepth 100000

/-- Which of two numbers is less. -/
def cmpI (x y : Int) : Int := if x < y then -1 else if y < x then 1 else 0

theorem isNaNI_any (x : Int) (w : World) : Calls Tryz.prog 136 #[.int .i64 x] w fun e w' => e = .returned (.bool false) ∧ w' = w := by
 have h : (x != x) = false := by simp
 go_enter Tryz.func136, Tryz.ntmps136
 go_wp2_with fail
 go_ret
 exact ⟨by simp, rfl⟩

theorem compareI_any (x y : Int) (w : World) : Calls Tryz.prog 127 #[.int .i64 x, .int .i64 y] w fun e w' => e = .returned (.int .i64 (cmpI x y)) ∧ w' = w := by
 have D := hide (fun (z : Int) (W : World) => isNaNI_any z W)
 unfold cmpI
 by_cases h1 : x < y
 · rw [if_pos h1]
   go_enter Tryz.func127, Tryz.ntmps127
   go_wp2_with fail
   refine ((unhide D) _ _).mono ?_
   rintro e w1 ⟨rfl, rfl⟩
   go_wp2_with fail
   refine ((unhide D) _ _).mono ?_
   rintro e w2 ⟨rfl, rfl⟩
   go_wp2_with fail
   go_ret
   exact ⟨rfl, rfl⟩
 · rw [if_neg h1]
   by_cases h2 : y < x
   · rw [if_pos h2]
     go_enter Tryz.func127, Tryz.ntmps127
     go_wp2_with fail
     refine ((unhide D) _ _).mono ?_
     rintro e w1 ⟨rfl, rfl⟩
     go_wp2_with fail
     refine ((unhide D) _ _).mono ?_
     rintro e w2 ⟨rfl, rfl⟩
     go_wp2_with fail
     go_ret
     exact ⟨rfl, rfl⟩
   · rw [if_neg h2]
     go_enter Tryz.func127, Tryz.ntmps127
     go_wp2_with fail
     refine ((unhide D) _ _).mono ?_
     rintro e w1 ⟨rfl, rfl⟩
     go_wp2_with fail
     refine ((unhide D) _ _).mono ?_
     rintro e w2 ⟨rfl, rfl⟩
     go_wp2_with fail
     go_ret
     exact ⟨rfl, rfl⟩

set_option maxRecDepth 100000

/-- The eight cells of a vote's key. -/
def encQ (q : Int × Vt) : List Value := (q.2.1 ++ q.2.2.1).map (Value.int .u8)

theorem stD_inv {v : Value} {p : Int} {b : Bool} {ps : List MemPlace} (h : standR v = some (stD p b, ps)) : v = .agg #[.int .i64 p, .bool b] := by
 obtain ⟨n, c, rfl⟩ := standR_inv h
 rw [standR_mk] at h
 simp only [stD, Option.some.injEq, Prod.mk.injEq, DataW.agg.injEq, List.cons.injEq, DataW.lit.injEq, Lit.int.injEq, Lit.bool.injEq, true_and, and_true] at h
 obtain ⟨⟨h1, h2⟩, _⟩ := h
 rw [h1, h2]

theorem fldS0 (x y : Value) (w : World) : (Instr.field 121 (.agg #[x, y]) 0).run Tryz.prog w = .ok x w := by kernel_rfl
theorem fldS1 (x y : Value) (w : World) : (Instr.field 121 (.agg #[x, y]) 1).run Tryz.prog w = .ok y w := by kernel_rfl

/-- What a poll answers of one of its votes. -/
theorem look_at {w : World} {g k : Nat} {D : DataW Unit} {L : Pv} (hown : w.ownsMap Tryz.prog 117 standR g k D) (hpd : PvD D L) {q : Int × Vt} (hq : q ∈ L) {key : Value} (hk : keyOf Tryz.prog 117 key = some (klOf q.2.1 q.2.2.1)) :
    (Instr.lookup 106 (.map (some g)) key false).run Tryz.prog w = .ok (.agg #[.int .i64 q.1, .bool q.2.2.2]) w := by
 obtain ⟨v, ps, hrun, hR⟩ := hown.lookup ballotLaw Tryz.underlying106 (zeroStand w) (standR_mk 0 false) hk
 rw [hpd.at' q hq] at hR
 rw [stD_inv hR] at hrun
 exact hrun

set_option maxHeartbeats 4000000 in
theorem byPlace_any (g k B : Nat) (L : Pv) (x y : Int × Vt) (hx : x ∈ L) (hy : y ∈ L) (w : World) (hp : PollV w g k L) (hc : w.cell? ⟨B, 0, none⟩ = some (.map (some g))) :
    Calls Tryz.prog 126 #[.agg (encQ x).toArray, .agg (encQ y).toArray, .pointer (some ⟨B, 0, none⟩)] w fun e w' => e = .returned (.int .i64 (cmpI x.1 y.1)) ∧ ∃ q os', w' = Go.Sort.grow (w.drewN q) os' := by
 obtain ⟨D, hown, hpd⟩ := hp
 obtain ⟨ax, bx⟩ := hpd.adr x hx
 obtain ⟨ay, by'⟩ := hpd.adr y hy
 obtain ⟨px, sx, tx, ddx⟩ := x
 obtain ⟨py, sy, ty, ddy⟩ := y
 simp only at ax bx ay by'
 obtain ⟨a0, a1, a2, a3, rfl, r0, r1, r2, r3⟩ := adr_four ax
 obtain ⟨a4, a5, a6, a7, rfl, r4, r5, r6, r7⟩ := adr_four bx
 obtain ⟨b0, b1, b2, b3, rfl, q0, q1, q2, q3⟩ := adr_four ay
 obtain ⟨b4, b5, b6, b7, rfl, q4, q5, q6, q7⟩ := adr_four by'
 have hka := keyOf_ballot r0 r1 r2 r3 r4 r5 r6 r7
 have hkb := keyOf_ballot q0 q1 q2 q3 q4 q5 q6 q7
 have e1 : (encQ (px, [a0, a1, a2, a3], [a4, a5, a6, a7], ddx)).toArray = #[.int .u8 a0, .int .u8 a1, .int .u8 a2, .int .u8 a3, .int .u8 a4, .int .u8 a5, .int .u8 a6, .int .u8 a7] := rfl
 have e2 : (encQ (py, [b0, b1, b2, b3], [b4, b5, b6, b7], ddy)).toArray = #[.int .u8 b0, .int .u8 b1, .int .u8 b2, .int .u8 b3, .int .u8 b4, .int .u8 b5, .int .u8 b6, .int .u8 b7] := rfl
 rw [e1, e2]
 have hBw := lt_of_cell hc
 have ka := (SBlk.new w #[.int .u8 a0, .int .u8 a1, .int .u8 a2, .int .u8 a3, .int .u8 a4, .int .u8 a5, .int .u8 a6, .int .u8 a7] 117).next (.cells #[.int .u8 b0, .int .u8 b1, .int .u8 b2, .int .u8 b3, .int .u8 b4, .int .u8 b5, .int .u8 b6, .int .u8 b7] 117)
 have kb := SBlk.new (w.alloc (.cells #[.int .u8 a0, .int .u8 a1, .int .u8 a2, .int .u8 a3, .int .u8 a4, .int .u8 a5, .int .u8 a6, .int .u8 a7] 117)) #[.int .u8 b0, .int .u8 b1, .int .u8 b2, .int .u8 b3, .int .u8 b4, .int .u8 b5, .int .u8 b6, .int .u8 b7] 117
 have hz1 : (w.alloc (.cells #[.int .u8 a0, .int .u8 a1, .int .u8 a2, .int .u8 a3, .int .u8 a4, .int .u8 a5, .int .u8 a6, .int .u8 a7] 117)).heap.size = w.heap.size + 1 := by simp
 rw [hz1] at kb
 have hbW := (below_alloc w (.cells #[.int .u8 a0, .int .u8 a1, .int .u8 a2, .int .u8 a3, .int .u8 a4, .int .u8 a5, .int .u8 a6, .int .u8 a7] 117)).trans ((below_alloc (w.alloc (.cells #[.int .u8 a0, .int .u8 a1, .int .u8 a2, .int .u8 a3, .int .u8 a4, .int .u8 a5, .int .u8 a6, .int .u8 a7] 117)) (.cells #[.int .u8 b0, .int .u8 b1, .int .u8 b2, .int .u8 b3, .int .u8 b4, .int .u8 b5, .int .u8 b6, .int .u8 b7] 117)).mono (by simp))
 have hgr : ∃ os', (w.alloc (.cells #[.int .u8 a0, .int .u8 a1, .int .u8 a2, .int .u8 a3, .int .u8 a4, .int .u8 a5, .int .u8 a6, .int .u8 a7] 117)).alloc (.cells #[.int .u8 b0, .int .u8 b1, .int .u8 b2, .int .u8 b3, .int .u8 b4, .int .u8 b5, .int .u8 b6, .int .u8 b7] 117) = Go.Sort.grow w os' := ⟨_, by rw [Go.Sort.alloc_eq_grow, Go.Sort.alloc_eq_grow, Go.Sort.grow_grow]⟩
 have hownW := (hown.alloc (.cells #[.int .u8 a0, .int .u8 a1, .int .u8 a2, .int .u8 a3, .int .u8 a4, .int .u8 a5, .int .u8 a6, .int .u8 a7] 117)).alloc (.cells #[.int .u8 b0, .int .u8 b1, .int .u8 b2, .int .u8 b3, .int .u8 b4, .int .u8 b5, .int .u8 b6, .int .u8 b7] 117)
 obtain ⟨W, eW⟩ : ∃ W, (w.alloc (.cells #[.int .u8 a0, .int .u8 a1, .int .u8 a2, .int .u8 a3, .int .u8 a4, .int .u8 a5, .int .u8 a6, .int .u8 a7] 117)).alloc (.cells #[.int .u8 b0, .int .u8 b1, .int .u8 b2, .int .u8 b3, .int .u8 b4, .int .u8 b5, .int .u8 b6, .int .u8 b7] 117) = W := ⟨_, rfl⟩
 rw [eW] at ka kb hbW hgr hownW
 have hcW := (hbW.cell hBw).trans hc
 have la : ∀ n, (Instr.lookup 106 (.map (some g)) (.agg #[.int .u8 a0, .int .u8 a1, .int .u8 a2, .int .u8 a3, .int .u8 a4, .int .u8 a5, .int .u8 a6, .int .u8 a7]) false).run Tryz.prog (W.drewN n) = .ok (.agg #[.int .i64 px, .bool ddx]) (W.drewN n) := fun n => look_at (hownW.kept (grown_of_below (below_drewN (Below.refl W.heap.size W) n) (Nat.le_refl _)) (by simp)) hpd hx hka
 have lb : ∀ n, (Instr.lookup 106 (.map (some g)) (.agg #[.int .u8 b0, .int .u8 b1, .int .u8 b2, .int .u8 b3, .int .u8 b4, .int .u8 b5, .int .u8 b6, .int .u8 b7]) false).run Tryz.prog (W.drewN n) = .ok (.agg #[.int .i64 py, .bool ddy]) (W.drewN n) := fun n => look_at (hownW.kept (grown_of_below (below_drewN (Below.refl W.heap.size W) n) (Nat.le_refl _)) (by simp)) hpd hy hkb
 have ca0 := ka.cell 0
 have cb0 := kb.cell 0
 have ca1 := ka.cell 1
 have cb1 := kb.cell 1
 have ca2 := ka.cell 2
 have cb2 := kb.cell 2
 have ca3 := ka.cell 3
 have cb3 := kb.cell 3
 have ca4 := ka.cell 4
 have cb4 := kb.cell 4
 have ca5 := ka.cell 5
 have cb5 := kb.cell 5
 have ca6 := ka.cell 6
 have cb6 := kb.cell 6
 have ca7 := ka.cell 7
 have cb7 := kb.cell 7
 simp only [List.getElem?_cons_zero, List.getElem?_cons_succ] at ca0 cb0 ca1 cb1 ca2 cb2 ca3 cb3 ca4 cb4 ca5 cb5 ca6 cb6 ca7 cb7
 have fS := fldS0
 have HCM := hide (fun (n : Nat) => compareI_any px py (W.drewN n))
 have HGR := hide hgr
 have EW := hide eW
 clear ka kb hbW hgr hownW hown hpd hx hy hc ax bx ay by' hka hkb hz1 eW e1 e2 hBw r0 r1 r2 r3 r4 r5 r6 r7 q0 q1 q2 q3 q4 q5 q6 q7
 go_enter Tryz.func126, Tryz.ntmps126
 go_upto_region 1 with fail
 rw [unhide EW]
 clear EW
 go_quiet ((go_at_call 127; exact Calls.quiet_of_same ((unhide HCM) _)))
 go_wp2_with fail
 go_ret
 obtain ⟨os', e⟩ := unhide HGR
 exact ⟨rfl, _, os', by rw [e]; rfl⟩

set_option maxRecDepth 100000

theorem _root_.Go.World.grownBy.weaken {w w' : World} (h : w.grownBy w' none) (g : Nat) : w.grownBy w' (some g) := ⟨h.os, h.tape, h.output, h.size, fun k hk _ => h.block k hk (by simp)⟩

theorem grownP {w w1 w2 : World} {r : Option Nat} (h : w.grownBy w1 r) (k : w1.grownBy w2 r) : w.grownBy w2 r := ⟨k.os.trans h.os, k.tape.trans h.tape, k.output.trans h.output, Nat.le_trans h.size k.size, fun q hq hne => (k.block q (Nat.lt_of_lt_of_le hq h.size) hne).trans (h.block q hq hne)⟩
theorem grownQ {w w1 w2 : World} {r : Option Nat} {C : Nat} (h : w.grownBy w1 r) (k : Below C w1 w2) (hC : w1.heap.size ≤ C) : w.grownBy w2 r := ⟨k.os.trans h.os, k.tape.trans h.tape, k.output.trans h.output, Nat.le_trans h.size k.size, fun q hq hne => (k.block q (Nat.lt_of_lt_of_le (Nat.lt_of_lt_of_le hq h.size) hC)).trans (h.block q hq hne)⟩

/-- The votes that are left while those that some test meets are taken out of those that were come by. -/
def pvCut (L : Pv) (f : Int × Vt → Bool) (left : Lit → Bool) : Pv := L.filter (fun q => left (klOf q.2.1 q.2.2.1) || !f q)

theorem same_iff {s t s' t' : List Int} (a : Adr s) (b : Adr t) (a' : Adr s') (b' : Adr t') (hk : WideAt.IsKeyLit (klOf s' t')) : (klOf s t).sameKey (klOf s' t') = decide ((s, t) = (s', t')) := by
 by_cases e : (s, t) = (s', t')
 · have e' := e
   simp only [Prod.mk.injEq] at e'
   obtain ⟨rfl, rfl⟩ := e'
   rw [decide_eq_true rfl]
   exact WideAt.sameKey_self hk
 · rw [decide_eq_false e]
   exact Maps.sameKey_ne (kl_ne a b a' b' e)

theorem cut_start {L : Pv} {f : Int × Vt → Bool} {left : Lit → Bool} (h : ∀ q ∈ L, left (klOf q.2.1 q.2.2.1) = true) : pvCut L f left = L := by
 unfold pvCut
 exact List.filter_eq_self.2 (fun q hq => by rw [h q hq]; rfl)

theorem cut_end {L : Pv} {f : Int × Vt → Bool} {left : Lit → Bool} (h : ∀ z, left z = false) : pvCut L f left = L.filter (fun q => !f q) := by
 unfold pvCut
 exact List.filter_congr (fun q _ => by rw [h]; rfl)

theorem cut_hit {L : Pv} {f : Int × Vt → Bool} {left : Lit → Bool} {s t : List Int} (ad : ∀ q ∈ L, Adr q.2.1 ∧ Adr q.2.2.1) (a : Adr s) (b : Adr t) (hk : WideAt.IsKeyLit (klOf s t)) (hf : ∀ q ∈ L, (q.2.1, q.2.2.1) = (s, t) → f q = true) :
    pvLess (pvCut L f left) s t = pvCut L f (fun z => left z && !z.sameKey (klOf s t)) := by
 unfold pvLess pvCut
 rw [List.filter_filter]
 refine List.filter_congr (fun q hq => ?_)
 dsimp only
 rw [same_iff (ad q hq).1 (ad q hq).2 a b hk]
 by_cases e : (q.2.1, q.2.2.1) = (s, t)
 · rw [decide_eq_true e, hf q hq e]
   simp
 · rw [decide_eq_false e]
   simp

theorem cut_miss {L : Pv} {f : Int × Vt → Bool} {left : Lit → Bool} {s t : List Int} (ad : ∀ q ∈ L, Adr q.2.1 ∧ Adr q.2.2.1) (a : Adr s) (b : Adr t) (hk : WideAt.IsKeyLit (klOf s t)) (hf : ∀ q ∈ L, (q.2.1, q.2.2.1) = (s, t) → f q = false) :
    pvCut L f left = pvCut L f (fun z => left z && !z.sameKey (klOf s t)) := by
 unfold pvCut
 refine List.filter_congr (fun q hq => ?_)
 dsimp only
 rw [same_iff (ad q hq).1 (ad q hq).2 a b hk]
 by_cases e : (q.2.1, q.2.2.1) = (s, t)
 · rw [decide_eq_true e, hf q hq e]
   simp
 · rw [decide_eq_false e]
   simp

set_option maxHeartbeats 4000000 in
theorem dropOn_any (g k : Nat) (y0 y1 y2 y3 : Int) (L : Pv) (w : World) (hp : PollV w g k L) (ht : Adr [y0, y1, y2, y3]) :
    Calls Tryz.prog 111 #[.map (some g), .agg #[.int .u8 y0, .int .u8 y1, .int .u8 y2, .int .u8 y3]] w fun e w' => e = .returned (.tuple #[]) ∧ PollV w' g k (L.filter (fun q => !decide (q.2.2.1 = [y0, y1, y2, y3]))) ∧ w.grownBy w' (some g) := by
 obtain ⟨D, hown, hhas'⟩ := hp
 have ka := SBlk.new w #[.int .u8 y0, .int .u8 y1, .int .u8 y2, .int .u8 y3] 115
 have ba := below_alloc w (.cells #[.int .u8 y0, .int .u8 y1, .int .u8 y2, .int .u8 y3] 115)
 have hgw : g < w.heap.size := hown.lt
 replace hown := hown.alloc (.cells #[.int .u8 y0, .int .u8 y1, .int .u8 y2, .int .u8 y3] 115)
 obtain ⟨W0, e0⟩ : ∃ W, w.alloc (.cells #[.int .u8 y0, .int .u8 y1, .int .u8 y2, .int .u8 y3] 115) = W := ⟨_, rfl⟩
 rw [e0] at ka ba hown
 go_enter Tryz.func111, Tryz.ntmps111
 go_wp2_with (first | (rw [e0]) | (at_range; refine wpList_range_own _ rfl _ 106 rfl 117 121 ballotLaw Tryz.underlying106 standR g k D rfl hown ?_; intro w0 hrg0 hg0 hs0))
 have hw0 : Below W0.heap.size W0 w0 := (Below.refl _ _).grown hg0 (Nat.le_refl _) (fun q e => by cases e)
 have hz := SBlk.lt ka
 have BA := hide ba
 have KA := hide ka
 have HO := hide hown
 have HG := hide (And.intro hg0 hs0)
 clear ba ka hown hg0 hs0
 have HPD := hide hhas'
 go_loopw [8] (fun _ wr => ∃ D' left cnt, wr.ranges Tryz.prog 117 standR g W0.heap.size k D' left cnt ∧ PvD D' (pvCut L (fun q => decide (q.2.2.1 = [y0, y1, y2, y3])) left) ∧ W0.grownBy wr (some g)) (fun _ wr => wr.rangeLeft g W0.heap.size)
 case atStart => exact ⟨_, _, _, hrg0, by rw [cut_start (fun q hq => by rw [(unhide HPD).has _ _ ((unhide HPD).adr q hq).1 ((unhide HPD).adr q hq).2]; exact decide_eq_true (pv_mem hq))]; exact unhide HPD, (grown_of_below hw0 (Nat.le_refl _)).weaken g⟩
 case round =>
  obtain ⟨D', left, cnt, hrg, hpd, hbr⟩ := hrel
  clear hrg0 hw0
  go_wp2_with (first
   | (at_next; refine wpList_next_ranges (α := Key8) (β := Std2) _ rfl _ rfl 117 ballotLaw standR Key8.val Std2.val (fun key kl h => by obtain ⟨z0, z1, z2, z3, x0, x1, x2, x3, rfl, _⟩ := key_inv h; exact ⟨⟨z0, z1, z2, z3, x0, x1, x2, x3⟩, rfl⟩) (fun v y h => by obtain ⟨n, b, rfl⟩ := standR_inv h; exact ⟨⟨n, b⟩, rfl⟩) g W0.heap.size k D' left cnt rfl hrg ?_ ?_)
   | fail)
  · intro _ hl0
    rw [cut_end hl0] at hpd
    have HE := hide (And.intro hrg.owns (And.intro hpd hbr))
    clear hpd hbr hrg
    go_wp2_with fail
    obtain ⟨ho, hpd, hbr⟩ := unhide HE
    refine bodyPost_end (v := .tuple #[]) (by simp [results, Tryz.results111]) rfl ⟨rfl, ⟨_, ho, hpd⟩, ?_⟩
    exact ⟨hbr.os.trans (unhide BA).os, hbr.tape.trans (unhide BA).tape, hbr.output.trans (unhide BA).output, Nat.le_trans (unhide BA).size hbr.size, fun q hq hne => (hbr.block q (Nat.lt_of_lt_of_le hq (unhide BA).size) hne).trans ((unhide BA).block q hq)⟩
  · intro x c kl ya yb w1 cnt1 hkey hlx hv hat hrg1 hlt hg1 hs1 hen
    obtain ⟨z0, z1, z2, z3, x0, x1, x2, x3⟩ := x
    obtain ⟨pl, bb⟩ := c
    simp only [Key8.val, Std2.val] at hkey hlx hv hat hrg1 hlt hg1 hs1 hen ⊢
    have hg01 : W0.grownBy w1 (some g) := ⟨hg1.os.trans hbr.os, hg1.tape.trans hbr.tape, hg1.output.trans hbr.output, Nat.le_trans hbr.size hg1.size, fun q hq hne => (hg1.block q (Nat.lt_of_lt_of_le hq hbr.size) (fun e => by have e' : q = W0.heap.size := Option.some.inj e; omega)).trans (hbr.block q hq hne)⟩
    have hgne : some w.heap.size ≠ some g := fun e => by have e' : w.heap.size = g := Option.some.inj e; omega
    have ka1 : SBlk w1 w.heap.size [.int .u8 y0, .int .u8 y1, .int .u8 y2, .int .u8 y3] 115 := (hg01.block w.heap.size hz hgne).trans (unhide KA)
    have ka2 := ka1.next (.cells #[.int .u8 z0, .int .u8 z1, .int .u8 z2, .int .u8 z3, .int .u8 x0, .int .u8 x1, .int .u8 x2, .int .u8 x3] 117)
    have k0 := ka2.cell 0
    have k1 := ka2.cell 1
    have k2 := ka2.cell 2
    have k3 := ka2.cell 3
    simp only [List.getElem?_cons_zero, List.getElem?_cons_succ] at k0 k1 k2 k3
    have hlt1 := ka1.lt
    obtain ⟨_, _, _, _, _, _, _, _, ek, el, za, xa⟩ := key_inv hkey
    simp only [Value.agg.injEq, Array.mk.injEq, List.cons.injEq, Value.int.injEq, true_and, and_true] at ek
    obtain ⟨rfl, rfl, rfl, rfl, rfl, rfl, rfl, rfl⟩ := ek
    subst el
    have heq := eqAddr xa ht (w1.alloc (.cells #[.int .u8 z0, .int .u8 z1, .int .u8 z2, .int .u8 z3, .int .u8 x0, .int .u8 x1, .int .u8 x2, .int .u8 x3] 117))
    have hrgA := hrg1.alloc (.cells #[.int .u8 z0, .int .u8 z1, .int .u8 z2, .int .u8 z3, .int .u8 x0, .int .u8 x1, .int .u8 x2, .int .u8 x3] 117)
    have hgA : W0.grownBy (w1.alloc (.cells #[.int .u8 z0, .int .u8 z1, .int .u8 z2, .int .u8 z3, .int .u8 x0, .int .u8 x1, .int .u8 x2, .int .u8 x3] 117)) (some g) := grownQ hg01 (below_alloc w1 _) (Nat.le_refl _)
    have HAD := hide (unhide HPD).adr
    have HR := hide (And.intro hrg hlt)
    have HKY := hide (ballotLaw.key hkey)
    have HZX := hide (And.intro za xa)
    have HPC := hide hpd
    have HGA := hide hgA
    by_cases hee : [x0, x1, x2, x3] = [y0, y1, y2, y3]
    · rw [decide_eq_true hee] at heq
      have HEE := hide hee
      clear hlx hat hrg1 hlt hg01 hrg hv ka1 ka2 hbr za xa hee hpd hgA hgne hg1 hs1
      go_wp2_with (at_delete; refine wpList_delete_ranges _ rfl _ _ 106 117 rfl 121 ballotLaw Tryz.underlying106 standR g W0.heap.size k D' _ cnt1 rfl hrgA _ _ rfl hkey ?_)
      intro w3 cnt3 hrg3 hle3 htn3
      have hpd3 := (unhide HPC).del ((hrgA.owns).tidy ballotLaw) (unhide HZX).1 (unhide HZX).2
      rw [cut_hit (unhide HAD) (unhide HZX).1 (unhide HZX).2 (unhide HKY) (fun q hq e => by simp only [Prod.mk.injEq] at e; exact decide_eq_true (e.2.trans (unhide HEE)))] at hpd3
      have HP3 := hide hpd3
      have HR3 := hide hrg3
      have g3 := htn3.grown
      have HG3 := hide (show W0.grownBy w3 (some g) from grownP (unhide HGA) g3)
      have HLE := hide hle3
      clear hpd3 hrg3 htn3 g3 hle3 hrgA
      go_wp2_with fail
      go_roundw
      case rel => exact ⟨_, _, cnt3, unhide HR3, unhide HP3, unhide HG3⟩
      case measure => rw [(unhide HR3).left_eq, (unhide HR).1.left_eq]; have := (unhide HR).2; have := unhide HLE; omega
    · rw [decide_eq_false hee] at heq
      have hpd3 := hpd
      rw [cut_miss (unhide HAD) za xa (unhide HKY) (fun q hq e => by simp only [Prod.mk.injEq] at e; exact decide_eq_false (fun h => hee (e.2.symm.trans h)))] at hpd3
      have HP3 := hide hpd3
      have HR3 := hide hrgA
      clear hlx hat hrg1 hlt hg01 hrg hv ka1 ka2 hbr za xa hee hpd hgA hgne hg1 hs1 hpd3 hrgA
      go_wp2_with fail
      go_roundw
      case rel => exact ⟨_, _, cnt1, unhide HR3, unhide HP3, unhide HGA⟩
      case measure => rw [(unhide HR3).left_eq, (unhide HR).1.left_eq]; exact (unhide HR).2

set_option maxHeartbeats 4000000 in
theorem dropOf_any (g k : Nat) (y0 y1 y2 y3 : Int) (L : Pv) (w : World) (hp : PollV w g k L) (ht : Adr [y0, y1, y2, y3]) :
    Calls Tryz.prog 113 #[.map (some g), .agg #[.int .u8 y0, .int .u8 y1, .int .u8 y2, .int .u8 y3]] w fun e w' => e = .returned (.tuple #[]) ∧ PollV w' g k (L.filter (fun q => !decide (q.2.1 = [y0, y1, y2, y3]))) ∧ w.grownBy w' (some g) := by
 obtain ⟨D, hown, hhas'⟩ := hp
 have ka := SBlk.new w #[.int .u8 y0, .int .u8 y1, .int .u8 y2, .int .u8 y3] 115
 have ba := below_alloc w (.cells #[.int .u8 y0, .int .u8 y1, .int .u8 y2, .int .u8 y3] 115)
 have hgw : g < w.heap.size := hown.lt
 replace hown := hown.alloc (.cells #[.int .u8 y0, .int .u8 y1, .int .u8 y2, .int .u8 y3] 115)
 obtain ⟨W0, e0⟩ : ∃ W, w.alloc (.cells #[.int .u8 y0, .int .u8 y1, .int .u8 y2, .int .u8 y3] 115) = W := ⟨_, rfl⟩
 rw [e0] at ka ba hown
 go_enter Tryz.func113, Tryz.ntmps113
 go_wp2_with (first | (rw [e0]) | (at_range; refine wpList_range_own _ rfl _ 106 rfl 117 121 ballotLaw Tryz.underlying106 standR g k D rfl hown ?_; intro w0 hrg0 hg0 hs0))
 have hw0 : Below W0.heap.size W0 w0 := (Below.refl _ _).grown hg0 (Nat.le_refl _) (fun q e => by cases e)
 have hz := SBlk.lt ka
 have BA := hide ba
 have KA := hide ka
 have HO := hide hown
 have HG := hide (And.intro hg0 hs0)
 clear ba ka hown hg0 hs0
 have HPD := hide hhas'
 go_loopw [8] (fun _ wr => ∃ D' left cnt, wr.ranges Tryz.prog 117 standR g W0.heap.size k D' left cnt ∧ PvD D' (pvCut L (fun q => decide (q.2.1 = [y0, y1, y2, y3])) left) ∧ W0.grownBy wr (some g)) (fun _ wr => wr.rangeLeft g W0.heap.size)
 case atStart => exact ⟨_, _, _, hrg0, by rw [cut_start (fun q hq => by rw [(unhide HPD).has _ _ ((unhide HPD).adr q hq).1 ((unhide HPD).adr q hq).2]; exact decide_eq_true (pv_mem hq))]; exact unhide HPD, (grown_of_below hw0 (Nat.le_refl _)).weaken g⟩
 case round =>
  obtain ⟨D', left, cnt, hrg, hpd, hbr⟩ := hrel
  clear hrg0 hw0
  go_wp2_with (first
   | (at_next; refine wpList_next_ranges (α := Key8) (β := Std2) _ rfl _ rfl 117 ballotLaw standR Key8.val Std2.val (fun key kl h => by obtain ⟨z0, z1, z2, z3, x0, x1, x2, x3, rfl, _⟩ := key_inv h; exact ⟨⟨z0, z1, z2, z3, x0, x1, x2, x3⟩, rfl⟩) (fun v y h => by obtain ⟨n, b, rfl⟩ := standR_inv h; exact ⟨⟨n, b⟩, rfl⟩) g W0.heap.size k D' left cnt rfl hrg ?_ ?_)
   | fail)
  · intro _ hl0
    rw [cut_end hl0] at hpd
    have HE := hide (And.intro hrg.owns (And.intro hpd hbr))
    clear hpd hbr hrg
    go_wp2_with fail
    obtain ⟨ho, hpd, hbr⟩ := unhide HE
    refine bodyPost_end (v := .tuple #[]) (by simp [results, Tryz.results113]) rfl ⟨rfl, ⟨_, ho, hpd⟩, ?_⟩
    exact ⟨hbr.os.trans (unhide BA).os, hbr.tape.trans (unhide BA).tape, hbr.output.trans (unhide BA).output, Nat.le_trans (unhide BA).size hbr.size, fun q hq hne => (hbr.block q (Nat.lt_of_lt_of_le hq (unhide BA).size) hne).trans ((unhide BA).block q hq)⟩
  · intro x c kl ya yb w1 cnt1 hkey hlx hv hat hrg1 hlt hg1 hs1 hen
    obtain ⟨z0, z1, z2, z3, x0, x1, x2, x3⟩ := x
    obtain ⟨pl, bb⟩ := c
    simp only [Key8.val, Std2.val] at hkey hlx hv hat hrg1 hlt hg1 hs1 hen ⊢
    have hg01 : W0.grownBy w1 (some g) := ⟨hg1.os.trans hbr.os, hg1.tape.trans hbr.tape, hg1.output.trans hbr.output, Nat.le_trans hbr.size hg1.size, fun q hq hne => (hg1.block q (Nat.lt_of_lt_of_le hq hbr.size) (fun e => by have e' : q = W0.heap.size := Option.some.inj e; omega)).trans (hbr.block q hq hne)⟩
    have hgne : some w.heap.size ≠ some g := fun e => by have e' : w.heap.size = g := Option.some.inj e; omega
    have ka1 : SBlk w1 w.heap.size [.int .u8 y0, .int .u8 y1, .int .u8 y2, .int .u8 y3] 115 := (hg01.block w.heap.size hz hgne).trans (unhide KA)
    have ka2 := ka1.next (.cells #[.int .u8 z0, .int .u8 z1, .int .u8 z2, .int .u8 z3, .int .u8 x0, .int .u8 x1, .int .u8 x2, .int .u8 x3] 117)
    have k0 := ka2.cell 0
    have k1 := ka2.cell 1
    have k2 := ka2.cell 2
    have k3 := ka2.cell 3
    simp only [List.getElem?_cons_zero, List.getElem?_cons_succ] at k0 k1 k2 k3
    have hlt1 := ka1.lt
    obtain ⟨_, _, _, _, _, _, _, _, ek, el, za, xa⟩ := key_inv hkey
    simp only [Value.agg.injEq, Array.mk.injEq, List.cons.injEq, Value.int.injEq, true_and, and_true] at ek
    obtain ⟨rfl, rfl, rfl, rfl, rfl, rfl, rfl, rfl⟩ := ek
    subst el
    have heq := eqAddr za ht (w1.alloc (.cells #[.int .u8 z0, .int .u8 z1, .int .u8 z2, .int .u8 z3, .int .u8 x0, .int .u8 x1, .int .u8 x2, .int .u8 x3] 117))
    have hrgA := hrg1.alloc (.cells #[.int .u8 z0, .int .u8 z1, .int .u8 z2, .int .u8 z3, .int .u8 x0, .int .u8 x1, .int .u8 x2, .int .u8 x3] 117)
    have hgA : W0.grownBy (w1.alloc (.cells #[.int .u8 z0, .int .u8 z1, .int .u8 z2, .int .u8 z3, .int .u8 x0, .int .u8 x1, .int .u8 x2, .int .u8 x3] 117)) (some g) := grownQ hg01 (below_alloc w1 _) (Nat.le_refl _)
    have HAD := hide (unhide HPD).adr
    have HR := hide (And.intro hrg hlt)
    have HKY := hide (ballotLaw.key hkey)
    have HZX := hide (And.intro za xa)
    have HPC := hide hpd
    have HGA := hide hgA
    by_cases hee : [z0, z1, z2, z3] = [y0, y1, y2, y3]
    · rw [decide_eq_true hee] at heq
      have HEE := hide hee
      clear hlx hat hrg1 hlt hg01 hrg hv ka1 ka2 hbr za xa hee hpd hgA hgne hg1 hs1
      go_wp2_with (at_delete; refine wpList_delete_ranges _ rfl _ _ 106 117 rfl 121 ballotLaw Tryz.underlying106 standR g W0.heap.size k D' _ cnt1 rfl hrgA _ _ rfl hkey ?_)
      intro w3 cnt3 hrg3 hle3 htn3
      have hpd3 := (unhide HPC).del ((hrgA.owns).tidy ballotLaw) (unhide HZX).1 (unhide HZX).2
      rw [cut_hit (unhide HAD) (unhide HZX).1 (unhide HZX).2 (unhide HKY) (fun q hq e => by simp only [Prod.mk.injEq] at e; exact decide_eq_true (e.1.trans (unhide HEE)))] at hpd3
      have HP3 := hide hpd3
      have HR3 := hide hrg3
      have g3 := htn3.grown
      have HG3 := hide (show W0.grownBy w3 (some g) from grownP (unhide HGA) g3)
      have HLE := hide hle3
      clear hpd3 hrg3 htn3 g3 hle3 hrgA
      go_wp2_with fail
      go_roundw
      case rel => exact ⟨_, _, cnt3, unhide HR3, unhide HP3, unhide HG3⟩
      case measure => rw [(unhide HR3).left_eq, (unhide HR).1.left_eq]; have := (unhide HR).2; have := unhide HLE; omega
    · rw [decide_eq_false hee] at heq
      have hpd3 := hpd
      rw [cut_miss (unhide HAD) za xa (unhide HKY) (fun q hq e => by simp only [Prod.mk.injEq] at e; exact decide_eq_false (fun h => hee (e.1.symm.trans h)))] at hpd3
      have HP3 := hide hpd3
      have HR3 := hide hrgA
      clear hlx hat hrg1 hlt hg01 hrg hv ka1 ka2 hbr za xa hee hpd hgA hgne hg1 hs1 hpd3 hrgA
      go_wp2_with fail
      go_roundw
      case rel => exact ⟨_, _, cnt1, unhide HR3, unhide HP3, unhide HGA⟩
      case measure => rw [(unhide HR3).left_eq, (unhide HR).1.left_eq]; exact (unhide HR).2

set_option maxRecDepth 100000

def Rise (L : Pv) : Prop := L.Pairwise (fun a b => a.1 < b.1)

theorem Rise.filter {L : Pv} (h : Rise L) (f : Int × Vt → Bool) : Rise (L.filter f) := List.Pairwise.sublist List.filter_sublist h

theorem placed_at (vs : List Vt) (i : Nat) (q : Int × Vt) (h : (placed vs)[i]? = some q) : q.1 = (i : Int) ∧ vs[i]? = some q.2 := by
 unfold placed at h
 rw [List.getElem?_mapIdx] at h
 obtain ⟨v, hv, rfl⟩ := Option.map_eq_some_iff.1 h
 exact ⟨rfl, hv⟩

theorem placed_rise (vs : List Vt) : Rise (placed vs) := by
 refine List.pairwise_iff_getElem.2 (fun i j hi hj hij => ?_)
 have h1 := (placed_at vs i _ (List.getElem?_eq_getElem hi)).1
 have h2 := (placed_at vs j _ (List.getElem?_eq_getElem hj)).1
 omega

theorem placed_lt (vs : List Vt) : ∀ q ∈ placed vs, 0 ≤ q.1 ∧ q.1 < (vs.length : Int) := fun q hq => by
 obtain ⟨i, hi⟩ := List.getElem?_of_mem hq
 obtain ⟨h1, h2⟩ := placed_at vs i q hi
 have := (List.getElem?_eq_some_iff.1 h2).1
 omega

theorem Rise.snoc {L : Pv} (h : Rise L) {p : Int} (hp : ∀ q ∈ L, q.1 < p) (v : Vt) : Rise (L ++ [(p, v)]) :=
 List.pairwise_append.2 ⟨h, List.pairwise_singleton _ _, fun a ha b hb => by
  have : b = (p, v) := by simpa using hb
  subst this
  exact hp a ha⟩

theorem map_filt (L : Pv) (f : Int × Vt → Bool) (g : Vt → Bool) (h : ∀ q ∈ L, f q = g q.2) : (L.filter f).map Prod.snd = (L.map Prod.snd).filter g := by
 rw [List.filter_map]
 congr 1
 exact List.filter_congr (fun q hq => h q hq)

theorem less_snd (L : Pv) (s t : List Int) (hs : 0 < s.length) (ht : 0 < t.length) : (pvLess L s t).map Prod.snd = (L.map Prod.snd).filter (keepV s t) := by
 refine map_filt L _ _ (fun q hq => ?_)
 unfold keepV
 rw [decide_eq_true hs, decide_eq_true ht]
 by_cases h1 : q.2.1 = s <;> by_cases h2 : q.2.2.1 = t <;> simp [h1, h2]

theorem on_snd (L : Pv) (t : List Int) (ht : 0 < t.length) : (L.filter (fun q => !decide (q.2.2.1 = t))).map Prod.snd = (L.map Prod.snd).filter (keepV [] t) := by
 refine map_filt L _ _ (fun q hq => ?_)
 unfold keepV
 rw [decide_eq_true ht]
 simp

theorem of_snd (L : Pv) (s : List Int) (hs : 0 < s.length) : (L.filter (fun q => !decide (q.2.1 = s))).map Prod.snd = (L.map Prod.snd).filter (keepV s []) := by
 refine map_filt L _ _ (fun q hq => ?_)
 unfold keepV
 rw [decide_eq_true hs]
 simp

/-- The votes that are left in the poll are those that the model leaves, in their order. -/
theorem cast_less (x : Sn) (s t : List Int) (hs : s.length = 4) (ht : t.length = 4) : (pvLess (placed x.2.2.2) s t).map Prod.snd = (lessSn x s t).2.2.2 := by
 rw [less_snd _ s t (by omega) (by omega), placed_snd]
 rfl

theorem cast_with (x : Sn) (s t : List Int) (add : Bool) (p : Int) (hs : s.length = 4) (ht : t.length = 4) : (pvLess (placed x.2.2.2) s t ++ [(p, s, t, add)]).map Prod.snd = (withVt x s t add).2.2.2 := by
 rw [List.map_append, cast_less x s t hs ht]
 rfl

theorem cast_in (L : Pv) (x : Sn) (t : List Int) (ht : t.length = 4) (h : L.map Prod.snd = x.2.2.2) : (L.filter (fun q => !decide (q.2.2.1 = t))).map Prod.snd = (wonIn x t).2.2.2 := by
 rw [on_snd L t (by omega), h]
 rfl

theorem cast_out (L : Pv) (x : Sn) (t : List Int) (ht : t.length = 4) (h : L.map Prod.snd = x.2.2.2) : ((L.filter (fun q => !decide (q.2.1 = t))).filter (fun q => !decide (q.2.2.1 = t))).map Prod.snd = (wonOut x t).2.2.2 := by
 rw [on_snd _ t (by omega), of_snd L t (by omega), h, List.filter_filter]
 show _ = (x.2.2.2.filter (keepV [] t)).filter (keepV t [])
 rw [List.filter_filter]
 exact List.filter_congr (fun v _ => Bool.and_comm _ _)

/-- Two lists of votes with places that hold the same ones and both rise are one. -/
theorem rise_perm {L M : Pv} (hp : L.Perm M) (hL : Rise L) (hM : Rise M) : L = M :=
 hp.eq_of_pairwise (fun a b _ _ h1 h2 => by have h1' : a.1 < b.1 := h1; have h2' : b.1 < a.1 := h2; omega) hL hM

set_option maxRecDepth 100000

/-- The votes that were come by. -/
def pvGone (L : Pv) (left : Lit → Bool) : Pv := L.filter (fun q => !left (klOf q.2.1 q.2.2.1))

theorem gone_start {L : Pv} {left : Lit → Bool} (h : ∀ q ∈ L, left (klOf q.2.1 q.2.2.1) = true) : pvGone L left = [] := by
 unfold pvGone
 rw [List.filter_eq_nil_iff]
 intro q hq
 rw [h q hq]
 decide

theorem gone_end {L : Pv} {left : Lit → Bool} (h : ∀ z, left z = false) : pvGone L left = L := by
 unfold pvGone
 exact List.filter_eq_self.2 (fun q _ => by rw [h]; rfl)

/-- One vote more was come by. -/
theorem gone_step {L : Pv} {left : Lit → Bool} {q : Int × Vt} (hn : (pvKeys L).Nodup) (ad : ∀ q ∈ L, Adr q.2.1 ∧ Adr q.2.2.1) (hq : q ∈ L) (hk : WideAt.IsKeyLit (klOf q.2.1 q.2.2.1)) (hl : left (klOf q.2.1 q.2.2.1) = true) :
    (pvGone L (fun z => left z && !z.sameKey (klOf q.2.1 q.2.2.1))).Perm (pvGone L left ++ [q]) := by
 unfold pvGone
 have hf : ∀ r ∈ L, (!(left (klOf r.2.1 r.2.2.1) && !(klOf r.2.1 r.2.2.1).sameKey (klOf q.2.1 q.2.2.1))) = (!left (klOf r.2.1 r.2.2.1) || decide ((r.2.1, r.2.2.1) = (q.2.1, q.2.2.1))) := fun r hr => by
  rw [same_iff (ad r hr).1 (ad r hr).2 (ad q hq).1 (ad q hq).2 hk]
  cases left (klOf r.2.1 r.2.2.1) <;> simp
 rw [List.filter_congr hf]
 clear hf
 unfold pvKeys vtKeys at hn
 induction L with
 | nil => simp at hq
 | cons r M ih =>
  simp only [List.map_cons, List.nodup_cons] at hn
  by_cases e : (r.2.1, r.2.2.1) = (q.2.1, q.2.2.1)
  · have hrq : r = q := by
      rcases List.mem_cons.1 hq with h | h
      · exact h.symm
      · exfalso
        apply hn.1
        rw [e]
        exact List.mem_map.2 ⟨q.2, List.mem_map.2 ⟨q, h, rfl⟩, rfl⟩
    subst hrq
    have hM : ∀ m ∈ M, ¬ (m.2.1, m.2.2.1) = (r.2.1, r.2.2.1) := fun m hm e' => hn.1 (by
     rw [← e']
     exact List.mem_map.2 ⟨m.2, List.mem_map.2 ⟨m, hm, rfl⟩, rfl⟩)
    rw [List.filter_cons_of_pos (by simp), List.filter_cons_of_neg (by simp [hl])]
    rw [List.filter_congr (fun m hm => by rw [decide_eq_false (hM m hm), Bool.or_false] : ∀ m ∈ M, (!left (klOf m.2.1 m.2.2.1) || decide ((m.2.1, m.2.2.1) = (r.2.1, r.2.2.1))) = !left (klOf m.2.1 m.2.2.1))]
    exact List.perm_append_singleton r _ |>.symm
  · have hqM : q ∈ M := by
      rcases List.mem_cons.1 hq with h | h
      · exact absurd (by rw [h]) e
      · exact h
    have ih' := ih hn.2 (fun m hm => ad m (List.mem_cons_of_mem _ hm)) hqM
    by_cases hr : left (klOf r.2.1 r.2.2.1) = true
    · rw [List.filter_cons_of_neg (by rw [hr, decide_eq_false e]; decide), List.filter_cons_of_neg (by rw [hr]; decide)]
      exact ih'
    · have hr' : left (klOf r.2.1 r.2.2.1) = false := by simpa using hr
      rw [List.filter_cons_of_pos (by rw [hr']; rfl), List.filter_cons_of_pos (by rw [hr']; rfl)]
      exact ih'.cons r

end Go.Proofs.YtdmcmlcmgbbclaaGreat

/- What is proved here: the bodies of slices.SortFunc and what it calls in this program are those that the library of proofs knows. -/
namespace Go.Proofs
open Go.Shelf
set_option maxRecDepth 100000
def Tryz.laysSort_ren : Go.Shelf.Ren := ⟨fun | 6 => 125 | 15 => 135 | 14 => 134 | 28 => 147 | 29 => 148 | 20 => 139 | 21 => 140 | 22 => 141 | 23 => 142 | 24 => 143 | 25 => 144 | 26 => 145 | 27 => 146 | 46 => 150 | 47 => 151 | 48 => 152 | 49 => 153 | 50 => 154 | 57 => 155 | n => n, fun | 22 => 154 | 24 => 117 | 25 => 157 | 3 => 3 | 39 => 164 | 0 => 0 | 53 => 175 | 55 => 177 | 4 => 4 | 46 => 169 | 45 => 168 | 50 => 147 | 5 => 5 | 9 => 9 | 66 => 179 | 70 => 183 | 76 => 185 | 77 => 186 | n => n, fun | n => n⟩
theorem Tryz.laysSort : Go.Proofs.SlLaysF0.n6 Tryz.prog Tryz.laysSort_ren := {
 mixed := by kernel_rfl
 f6 := ⟨Tryz.f125.name, by decide, Tryz.func125.trans (congrArg some (by kernel_rfl))⟩
 f14 := ⟨Tryz.f134.name, by decide, Tryz.func134.trans (congrArg some (by kernel_rfl))⟩
 f15 := Tryz.func135.trans (congrArg some (by kernel_rfl))
 f20 := ⟨Tryz.f139.name, by decide, Tryz.func139.trans (congrArg some (by kernel_rfl))⟩
 f21 := ⟨Tryz.f140.name, by decide, Tryz.func140.trans (congrArg some (by kernel_rfl))⟩
 f22 := ⟨Tryz.f141.name, by decide, Tryz.func141.trans (congrArg some (by kernel_rfl))⟩
 f23 := ⟨Tryz.f142.name, by decide, Tryz.func142.trans (congrArg some (by kernel_rfl))⟩
 f24 := ⟨Tryz.f143.name, by decide, Tryz.func143.trans (congrArg some (by kernel_rfl))⟩
 f25 := ⟨Tryz.f144.name, by decide, Tryz.func144.trans (congrArg some (by kernel_rfl))⟩
 f26 := ⟨Tryz.f145.name, by decide, Tryz.func145.trans (congrArg some (by kernel_rfl))⟩
 f27 := ⟨Tryz.f146.name, by decide, Tryz.func146.trans (congrArg some (by kernel_rfl))⟩
 f28 := Tryz.func147.trans (congrArg some (by kernel_rfl))
 f29 := Tryz.func148.trans (congrArg some (by kernel_rfl))
 f46 := ⟨Tryz.f150.name, by decide, Tryz.func150.trans (congrArg some (by kernel_rfl))⟩
 f47 := Tryz.func151.trans (congrArg some (by kernel_rfl))
 f48 := Tryz.func152.trans (congrArg some (by kernel_rfl))
 f49 := ⟨Tryz.f153.name, by decide, Tryz.func153.trans (congrArg some (by kernel_rfl))⟩
 f50 := ⟨Tryz.f154.name, by decide, Tryz.func154.trans (congrArg some (by kernel_rfl))⟩
 f57 := ⟨Tryz.f155.name, by decide, Tryz.func155.trans (congrArg some (by kernel_rfl))⟩
 t0 := Tryz.underlying0
 a0 := Tryz.isAgg0
 z0 := Tryz.sizeOf0
 v0 := Tryz.zeroValue0
 t3 := Tryz.underlying3
 a3 := Tryz.isAgg3
 z3 := Tryz.sizeOf3
 v3 := Tryz.zeroValue3
 t4 := Tryz.underlying4
 a4 := Tryz.isAgg4
 z4 := Tryz.sizeOf4
 v4 := Tryz.zeroValue4
 t5 := Tryz.underlying5
 a5 := Tryz.isAgg5
 z5 := Tryz.sizeOf5
 v5 := Tryz.zeroValue5
 t9 := Tryz.underlying9
 a9 := Tryz.isAgg9
 z9 := Tryz.sizeOf9
 v9 := Tryz.zeroValue9
 t22 := Tryz.underlying154
 a22 := Tryz.isAgg154
 z22 := Tryz.sizeOf154
 v22 := Tryz.zeroValue154
 t25 := Tryz.underlying157
 a25 := Tryz.isAgg157
 z25 := Tryz.sizeOf157
 v25 := Tryz.zeroValue157
 t39 := Tryz.underlying164
 a39 := Tryz.isAgg164
 z39 := Tryz.sizeOf164
 v39 := Tryz.zeroValue164
 t45 := Tryz.underlying168
 a45 := Tryz.isAgg168
 z45 := Tryz.sizeOf168
 v45 := Tryz.zeroValue168
 t46 := Tryz.underlying169
 a46 := Tryz.isAgg169
 z46 := Tryz.sizeOf169
 v46 := Tryz.zeroValue169
 t50 := Tryz.underlying147
 a50 := Tryz.isAgg147
 z50 := Tryz.sizeOf147
 v50 := Tryz.zeroValue147
 t53 := Tryz.underlying175
 a53 := Tryz.isAgg175
 z53 := Tryz.sizeOf175
 v53 := Tryz.zeroValue175
 t55 := Tryz.underlying177
 a55 := Tryz.isAgg177
 z55 := Tryz.sizeOf177
 v55 := Tryz.zeroValue177
 t66 := Tryz.underlying179
 a66 := Tryz.isAgg179
 z66 := Tryz.sizeOf179
 v66 := Tryz.zeroValue179
 t70 := Tryz.underlying183
 a70 := Tryz.isAgg183
 z70 := Tryz.sizeOf183
 v70 := Tryz.zeroValue183
 t76 := Tryz.underlying185
 a76 := Tryz.isAgg185
 z76 := Tryz.sizeOf185
 v76 := Tryz.zeroValue185
 t77 := Tryz.underlying186
 a77 := Tryz.isAgg186
 z77 := Tryz.sizeOf186
 v77 := Tryz.zeroValue186 }
end Go.Proofs
