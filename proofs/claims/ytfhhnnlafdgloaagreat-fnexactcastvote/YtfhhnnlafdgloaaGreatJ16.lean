/- What is proved here: what the model's CastVote answers. -/
import Derived.Test.YtfhhnnlafdgloaaGreatJ15
import Derived.Test.YtfhhnnlafdgloaaGreatJ10
import Derived.Test.YtfhhnnlafdgloaaGreatJ5
import Derived.Test.YtfhhnnlafdgloaaGreatJ7
import Derived.Test.YtfhhnnlafdgloaaGreatJ13
namespace Go.Proofs.YtfhhnnlafdgloaaGreat
open Go.RowKit
set_option linter.unusedVariables false
set_option linter.unusedSimpArgs false
set_option maxRecDepth 100000

/-- The code of CastVote, and the snapshot that it answers. -/
def cvCode (x : Sn) (s t : List Int) (add : Bool) : Int :=
  if snFlt x ≠ 0 then snFlt x else if (s.length == 4) = false then 1 else if (t.length == 4) = false then 1 else if decide (s ∈ x.2.1) = false then 4 else ctCode x s t add
def cvSn (x : Sn) (s t : List Int) (add : Bool) : Sn := if cvCode x s t add = 0 then ctSn x s t add else (0, [], [], [])
/-- The five cells of a SnapResult. -/
def srvals (c : Int) (e : SnS) (x : Sn) : Array Value := #[.int .i64 c, .int .i64 x.1, .slice e.2.1.a e.2.1.n e.2.1.c, .slice e.2.2.1.a e.2.2.1.n e.2.2.1.c, .slice e.2.2.2.a e.2.2.2.n e.2.2.2.c]

theorem sn_nil (w : World) : SNK.Ok w ((), ⟨none, 0, 0⟩, ⟨none, 0, 0⟩, ⟨none, 0, 0⟩) (0, [], [], []) :=
  ⟨(show in64 0 by unfold in64; omega), ⟨rfl, Nat.le_refl _, Nat.zero_le _, fun _ => rfl, fun h => absurd h (by simp)⟩, ⟨rfl, Nat.le_refl _, Nat.zero_le _, fun _ => rfl, fun h => absurd h (by simp)⟩, ⟨rfl, Nat.le_refl _, Nat.zero_le _, fun _ => rfl, fun h => absurd h (by simp)⟩⟩

theorem set5 {w W : World} {B g : Nat} (h : Below B w W) (hg : B ≤ g) (a b c d e : Value) : Below B w (((((W.setCell ⟨g, 0, none⟩ a).setCell ⟨g, 1, none⟩ b).setCell ⟨g, 2, none⟩ c).setCell ⟨g, 3, none⟩ d).setCell ⟨g, 4, none⟩ e) := (set4 h hg a b c d).setCell (p := ⟨g, 4, none⟩) hg e
theorem other5 {w : World} {g k : Nat} (h : ¬ k = g) (a b c d e : Value) : (((((w.setCell ⟨g, 0, none⟩ a).setCell ⟨g, 1, none⟩ b).setCell ⟨g, 2, none⟩ c).setCell ⟨g, 3, none⟩ d).setCell ⟨g, 4, none⟩ e).heap[k]? = w.heap[k]? := by
  rw [heap_setCell_other _ ⟨g, 4, none⟩ k e h, other4 h]
theorem five_blk {w : World} {g : Nat} {x y z u v : Value} {t : TypeId} (k : SBlk w g [x, y, z, u, v] t) : (w.cell? ⟨g, 0, none⟩ = some x ∧ w.cell? ⟨g, 1, none⟩ = some y ∧ w.cell? ⟨g, 2, none⟩ = some z ∧ w.cell? ⟨g, 3, none⟩ = some u ∧ w.cell? ⟨g, 4, none⟩ = some v) ∧ w.frozen? ⟨g, 0, none⟩ = false ∧ w.frozen? ⟨g, 1, none⟩ = false ∧ w.frozen? ⟨g, 2, none⟩ = false ∧ w.frozen? ⟨g, 3, none⟩ = false ∧ w.frozen? ⟨g, 4, none⟩ = false := ⟨⟨k.cell 0, k.cell 1, k.cell 2, k.cell 3, k.cell 4⟩, k.free 0, k.free 1, k.free 2, k.free 3, k.free 4⟩

set_option maxHeartbeats 8000000 in
theorem specCast_any (e : SnS) (x : Sn) (sa sb : Sl) (za zb : List Int) (add : Bool) (w : World) (o : SNK.Ok w e x) (m : SnSm x) (oa : BOk w sa za) (ob : BOk w sb zb) :
    Calls Tryz.prog 5 #[.agg (snvals e x), .slice sa.a sa.n sa.c, .slice sb.a sb.n sb.c, .bool add] w fun r w' => ∃ e' : SnS, r = .returned (.agg (srvals (cvCode x za zb add) e' (cvSn x za zb add))) ∧ SNK.Ok w' e' (cvSn x za zb add) ∧ Below w.heap.size w w' := by
  obtain ⟨kb, kr, bb⟩ := two_sblk w (snvals e x) #[.int .i64 0, .int .i64 0, .slice none 0 0, .slice none 0 0, .slice none 0 0] 32 34
  obtain ⟨W0, e0⟩ : ∃ W, (w.alloc (.cells (snvals e x) 32)).alloc (.cells #[.int .i64 0, .int .i64 0, .slice none 0 0, .slice none 0 0, .slice none 0 0] 34) = W := ⟨_, rfl⟩
  rw [e0] at kb kr bb
  have HF := hide (l7Fault_any w.heap.size e x 32 W0 kb (SNK.below o bb (Nat.le_refl _)) m)
  have HA := hide (fun W => l7Addr_any sa.a sa.n sa.c W)
  have HB := hide (fun W => l7Addr_any sb.a sb.n sb.c W)
  have hna : (((sa.n : Nat) : Int) == 4) = (za.length == 4) := by rw [oa.row.1, Bool.eq_iff_iff, beq_iff_eq, beq_iff_eq]; omega
  have hnb : (((sb.n : Nat) : Int) == 4) = (zb.length == 4) := by rw [ob.row.1, Bool.eq_iff_iff, beq_iff_eq, beq_iff_eq]; omega
  rw [hna] at HA
  rw [hnb] at HB
  have HAT := hide (fun (W : World) (hb : Below W0.heap.size W0 W) => l7At_any e.2.1 sa x.2.1 za W (RowOk.below o.2.1 (bb.trans (hb.mono bb.size)) (Nat.le_refl _)) (bytesK.below oa (bb.trans (hb.mono bb.size)) (Nat.le_refl _)) (by have := m.s; omega))
  have HNEG := hide (atFrom_neg za x.2.1 0)
  have HCT := hide (fun (h0 : snFlt x = 0) (h1 : (za.length == 4) = true) (h2 : (zb.length == 4) = true) (W : World) (hb : Below W0.heap.size W0 W) => l7Cast_any e x sa sb za zb add W (SNK.below o (bb.trans (hb.mono bb.size)) (Nat.le_refl _)) m (bytesK.below oa (bb.trans (hb.mono bb.size)) (Nat.le_refl _)) (bytesK.below ob (bb.trans (hb.mono bb.size)) (Nat.le_refl _)) (by have := eq_of_beq h1; omega) (by have := eq_of_beq h2; omega) (by have := snFlt_sg h0; omega) (by have := snFlt_sg h0; omega))
  have HOK := hide (fun (W : World) (hb : Below w.heap.size w W) => SNK.below o hb (Nat.le_refl _))
  have HKB := hide (fun (W : World) (hb : Below W0.heap.size W0 W) => And.intro (kb.below hb kb.lt) (kr.below hb kr.lt))
  have z0 : w.heap.size + 1 < W0.heap.size := kr.lt
  have HBB := hide bb
  have HC : Hid (cvCode x za zb add = if snFlt x ≠ 0 then snFlt x else if (za.length == 4) = false then 1 else if (zb.length == 4) = false then 1 else if decide (za ∈ x.2.1) = false then 4 else ctCode x za zb add) := rfl
  have HV : Hid (cvSn x za zb add = if cvCode x za zb add = 0 then ctSn x za zb add else (0, [], [], [])) := rfl
  have EA := hide e0
  have hz := (z0 : w.heap.size + 1 < W0.heap.size)
  clear o oa ob m kb kr bb hna hnb e0
  generalize cvSn x za zb add = XX at HV ⊢
  generalize cvCode x za zb add = CC at HC HV ⊢
  generalize ctSn x za zb add = CX at HV HCT
  generalize ctCode x za zb add = CO at HC HCT
  generalize snFlt x = fl at HF HC HCT
  generalize (za.length == 4) = wa at HA HC HCT
  generalize (zb.length == 4) = wb at HB HC HCT
  generalize atFrom za 0 x.2.1 = at0 at HAT HNEG
  generalize hmm : decide (za ∈ x.2.1) = inn at HC
  have HMM := hide hmm
  clear hmm
  obtain ⟨n, zss, rs, vs⟩ := x
  obtain ⟨⟨⟩, sg, sr, sv⟩ := e
  unfold snvals at EA HCT ⊢
  unfold srvals
  simp only at HCT HAT ⊢
  have HKR := hide (fun (W : World) (hb : Below W0.heap.size W0 W) => five_blk ((unhide HKB) W hb).2)
  have HKX : Hid (∀ (W : World), Below W0.heap.size W0 W → W.cell? ⟨w.heap.size, 0, none⟩ = some (.int .i64 n) ∧ W.cell? ⟨w.heap.size, 1, none⟩ = some (.slice sg.a sg.n sg.c) ∧ W.cell? ⟨w.heap.size, 2, none⟩ = some (.slice sr.a sr.n sr.c) ∧ W.cell? ⟨w.heap.size, 3, none⟩ = some (.slice sv.a sv.n sv.c)) := fun W hb => (four_blk ((unhide HKB) W hb).1).1
  go_enter Tryz.func5, Tryz.ntmps5
  go_upto_region 1 with fail
  rw [unhide EA]
  clear EA
  go_wp2_with fail
  refine (unhide HF).mono ?_
  rintro r w1 ⟨rfl, k1, rfl⟩
  have J := hide (below_drewN (Below.refl W0.heap.size W0) k1)
  have BJ := hide (below_drewN (unhide HBB) k1)
  generalize W0.drewN k1 = w1 at J BJ ⊢
  obtain ⟨⟨r0, r1, r2, r3, r4⟩, f0, f1, f2, f3, f4⟩ := (unhide HKR) w1 (unhide J)
  obtain ⟨c0, c1, c2, c3⟩ := (unhide HKX) w1 (unhide J)
  have FIN : Hid (∀ c : Int, CC = c → ¬ c = 0 → ∃ e' : SnS, Ending.returned (Value.agg #[.int .i64 c, .int .i64 0, .slice none 0 0, .slice none 0 0, .slice none 0 0]) = Ending.returned (Value.agg #[.int .i64 CC, .int .i64 XX.1, .slice e'.2.1.a e'.2.1.n e'.2.1.c, .slice e'.2.2.1.a e'.2.2.1.n e'.2.2.1.c, .slice e'.2.2.2.a e'.2.2.2.n e'.2.2.2.c]) ∧ (∀ W, SNK.Ok W e' XX)) := fun c hc hn => by
    have hX : XX = (0, [], [], []) := (unhide HV).trans (if_neg (by rw [hc]; exact hn))
    subst hX
    subst hc
    exact ⟨((), ⟨none, 0, 0⟩, ⟨none, 0, 0⟩, ⟨none, 0, 0⟩), rfl, fun W => sn_nil W⟩
  by_cases n0 : fl = 0
  case neg =>
    have h0 : (fl != 0) = true := by simp [n0]
    have hC : CC = fl := (unhide HC).trans (if_pos n0)
    obtain ⟨e', p1, p2⟩ := (unhide FIN) fl hC n0
    clear n0
    go_wp2_with fail
    exact bodyPost_ret (v := .agg #[.int .i64 (fl), .int .i64 0, .slice none 0 0, .slice none 0 0, .slice none 0 0]) (by simp [results, Tryz.results5, go_sem, r0, r1, r2, r3, r4]) rfl ⟨e', p1, p2 _, set5 (unhide BJ) (Nat.le_succ w.heap.size) _ _ _ _ _⟩
  subst n0
  have h0 : ((0 : Int) != 0) = false := by simp
  go_wp2_with fail
  refine ((unhide HA) _).mono ?_
  rintro r w2 ⟨rfl, rfl⟩
  cases wa
  · have hC : CC = 1 := by rw [unhide HC]; simp
    obtain ⟨e', p1, p2⟩ := (unhide FIN) 1 hC (by decide)
    go_wp2_with fail
    exact bodyPost_ret (v := .agg #[.int .i64 (1), .int .i64 0, .slice none 0 0, .slice none 0 0, .slice none 0 0]) (by simp [results, Tryz.results5, go_sem, r0, r1, r2, r3, r4]) rfl ⟨e', p1, p2 _, set5 (unhide BJ) (Nat.le_succ w.heap.size) _ _ _ _ _⟩
  go_wp2_with fail
  refine ((unhide HB) _).mono ?_
  rintro r w3 ⟨rfl, rfl⟩
  cases wb
  · have hC : CC = 1 := by rw [unhide HC]; simp
    obtain ⟨e', p1, p2⟩ := (unhide FIN) 1 hC (by decide)
    go_wp2_with fail
    exact bodyPost_ret (v := .agg #[.int .i64 (1), .int .i64 0, .slice none 0 0, .slice none 0 0, .slice none 0 0]) (by simp [results, Tryz.results5, go_sem, r0, r1, r2, r3, r4]) rfl ⟨e', p1, p2 _, set5 (unhide BJ) (Nat.le_succ w.heap.size) _ _ _ _ _⟩
  go_wp2_with fail
  refine ((unhide HAT) _ (unhide J)).mono ?_
  rintro r w4 ⟨rfl, rfl⟩
  have hmm : decide (za ∈ zss) = inn := unhide HMM
  have hng := unhide HNEG
  cases inn
  · have hC : CC = 4 := by rw [unhide HC]; simp
    have hni : ¬ za ∈ zss := of_decide_eq_false hmm
    have hlt : at0 < 0 := by simp [hni] at hng; exact hng
    obtain ⟨e', p1, p2⟩ := (unhide FIN) 4 hC (by decide)
    clear hng hmm
    go_wp2_with fail
    exact bodyPost_ret (v := .agg #[.int .i64 (4), .int .i64 0, .slice none 0 0, .slice none 0 0, .slice none 0 0]) (by simp [results, Tryz.results5, go_sem, r0, r1, r2, r3, r4]) rfl ⟨e', p1, p2 _, set5 (unhide BJ) (Nat.le_succ w.heap.size) _ _ _ _ _⟩
  have hin : za ∈ zss := of_decide_eq_true hmm
  have hlt : ¬ at0 < 0 := by simp [hin] at hng; omega
  clear hng hmm hin
  have DC := hide ((unhide HCT) (by simp) (by simp) (by simp) w4 (unhide J))
  clear HCT
  go_wp2_with fail
  refine (unhide DC).mono ?_
  rintro r w5 ⟨⟨⟨⟩, s5, r5, v5⟩, rfl, ok5, b5⟩
  simp only at ok5 ⊢
  have bg := below_alloc w5 (.cells #[.int .i64 CX.1, .slice s5.a s5.n s5.c, .slice r5.a r5.n r5.c, .slice v5.a v5.n v5.c] 32)
  have kg := SBlk.new w5 #[.int .i64 CX.1, .slice s5.a s5.n s5.c, .slice r5.a r5.n r5.c, .slice v5.a v5.n v5.c] 32
  obtain ⟨W6, e6⟩ : ∃ W, w5.alloc (.cells #[.int .i64 CX.1, .slice s5.a s5.n s5.c, .slice r5.a r5.n r5.c, .slice v5.a v5.n v5.c] 32) = W := ⟨_, rfl⟩
  rw [e6] at bg kg
  have b46 := b5.trans (bg.mono b5.size)
  have b06 := (unhide J).trans (b46.mono (unhide J).size)
  clear r0 r1 r2 r3 r4 f0 f1 f2 f3 f4 c0 c1 c2 c3
  obtain ⟨⟨r0, r1, r2, r3, r4⟩, f0, f1, f2, f3, f4⟩ := (unhide HKR) W6 b06
  obtain ⟨⟨g0, g1, g2, g3⟩, _⟩ := four_blk kg
  have E6 := hide e6
  have HX := hide (And.intro ok5 (And.intro b5 (And.intro bg b06)))
  clear e6 kg b46 b06 bg b5 ok5
  by_cases hco : CO = 0
  · have hC : CC = 0 := by rw [unhide HC]; simp [hco]
    have hX : XX = CX := (unhide HV).trans (if_pos hC)
    subst hX
    subst hC
    have hc0 : (CO != 0) = false := by simp [hco]
    clear hco FIN
    go_wp2_with (rw [unhide E6])
    obtain ⟨ok5, b5, bg, b06⟩ := unhide HX
    have bw6 := (unhide HBB).trans (b06.mono (unhide HBB).size)
    have HF := set5 bw6 (Nat.le_succ w.heap.size) (.int .i64 0) (.int .i64 XX.1) (.slice s5.a s5.n s5.c) (.slice r5.a r5.n r5.c) (.slice v5.a v5.n v5.c)
    have hz4 := (unhide J).size
    refine bodyPost_ret (v := .agg #[.int .i64 0, .int .i64 XX.1, .slice s5.a s5.n s5.c, .slice r5.a r5.n r5.c, .slice v5.a v5.n v5.c]) (by simp [results, Tryz.results5, go_sem, r0, r1, r2, r3, r4]) rfl ?_
    have hOk := ok5 _ (fun g a b => (other5 (w := W6) (k := g) (g := w.heap.size + 1) (by omega) (.int .i64 0) (.int .i64 XX.1) (.slice s5.a s5.n s5.c) (.slice r5.a r5.n r5.c) (.slice v5.a v5.n v5.c)).trans (bg.block g b)) ((unhide HOK) _ HF)
    first
      | exact ⟨((), s5, r5, v5), rfl, hOk, HF⟩
      | exact ⟨(), s5, r5, v5, rfl, hOk, HF⟩
  · have hC : CC = CO := by rw [unhide HC]; simp
    have hc0 : (CO != 0) = true := by simp [hco]
    obtain ⟨e', p1, p2⟩ := (unhide FIN) CO hC hco
    clear hco
    go_wp2_with (rw [unhide E6])
    obtain ⟨ok5, b5, bg, b06⟩ := unhide HX
    have bw6 := (unhide HBB).trans (b06.mono (unhide HBB).size)
    exact bodyPost_ret (v := .agg #[.int .i64 CO, .int .i64 0, .slice none 0 0, .slice none 0 0, .slice none 0 0]) (by simp [results, Tryz.results5, go_sem, r0, r1, r2, r3, r4]) rfl ⟨e', p1, p2 _, set5 bw6 (Nat.le_succ w.heap.size) _ _ _ _ _⟩

end Go.Proofs.YtfhhnnlafdgloaaGreat

/- What is proved here: the contracts of the laws' helper functions over a snapshot and over a SnapResult whose snapshot lies in memory of its own (markSnap, markSnapResult, heldSnap, heldSnapResult, eqSnapResult). -/
namespace Go.Proofs.YtfhhnnlafdgloaaGreat
open Go.RowKit
set_option linter.unusedVariables false
set_option linter.unusedSimpArgs false
set_option maxRecDepth 100000

/-- A snapshot whose parts are no greater than the laws let in. -/
structure SnT (x : Sn) : Prop where
  s : x.2.1.length ≤ 1048576
  sb : bsum x.2.1 ≤ 1048576
  r : x.2.2.1.length ≤ 1048576
  rb : lsum rcT x.2.2.1 ≤ 1048576
  v : x.2.2.2.length ≤ 1048576
  vb : lsum vtT x.2.2.2 ≤ 1048576

theorem ls_mem {α : Type} (t : α → Nat) (xs : List α) (x : α) (h : x ∈ xs) : t x ≤ lsum t xs := by
  obtain ⟨i, hi⟩ := List.getElem?_of_mem h
  have := ls_snoc t xs i x hi
  have := ls_le t xs (i + 1)
  omega

theorem SnT.rz {x : Sn} (h : SnT x) : ∀ r ∈ x.2.2.1, r.2.length ≤ 1048576 := fun r hr => by
  have h1 : 1 + r.2.length ≤ lsum rcT x.2.2.1 := ls_mem rcT _ r hr
  have := h.rb
  omega

theorem SnT.vz {x : Sn} (h : SnT x) : ∀ r ∈ x.2.2.2, r.1.length ≤ 1048576 ∧ r.2.1.length ≤ 1048576 := fun r hr => by
  have h1 : r.1.length + r.2.1.length + 1 ≤ lsum vtT x.2.2.2 := ls_mem vtT _ r hr
  have := h.vb
  omega

theorem SnT.sz {x : Sn} (h : SnT x) : ∀ z ∈ x.2.1, z.length ≤ 1048576 := fun z hz => by
  have h1 : z.length ≤ bsum x.2.1 := ls_mem List.length _ z hz
  have := h.sb
  omega

theorem SnT.sm {x : Sn} (h : SnT x) : SnSm x := by
  refine ⟨by have := h.s; omega, h.sz, by have := h.r; omega, fun y hy => h.rz y hy, by have := h.v; omega, fun y hy => ?_⟩
  have h1 : y.1.length + y.2.1.length + 1 ≤ lsum vtT x.2.2.2 := ls_mem vtT _ y hy
  have := h.vb
  show y.1.length + y.2.1.length ≤ _
  omega

/-- A snapshot marked from a number on, and how many numbers it takes. -/
def mkSn (k : Int) (x : Sn) : Sn := (x.1, mkss k x.2.1, mkR mkRc rcT (k + (bsum x.2.1 : Nat)) x.2.2.1, mkR mkVt vtT (k + (bsum x.2.1 : Nat) + (lsum rcT x.2.2.1 : Nat)) x.2.2.2)
def snTot (x : Sn) : Nat := bsum x.2.1 + lsum rcT x.2.2.1 + lsum vtT x.2.2.2

theorem SnT.tot {x : Sn} (h : SnT x) : snTot x ≤ 3145728 := by
  have := h.sb
  have := h.rb
  have := h.vb
  unfold snTot
  omega

set_option maxHeartbeats 4000000 in
theorem markSn_p (B : Nat) (d : Nat → Path) (p : Path) (e : SnS) (x : Sn) (k0 : Int) (w : World) (h : SNK.Own w B d p e x) (t : SnT x) (hB : B ≤ w.heap.size) (hk0 : 0 ≤ k0) (hk1 : k0 ≤ 8388608) (hd : ∀ g, w.heap.size ≤ g → ¬ p <+: d g) :
    Calls Tryz.prog 12 #[.agg (snvals e x), .int .i64 k0] w fun r w' => r = .returned (.int .i64 (k0 + (snTot x : Nat))) ∧ SNK.Own w' B d p e (mkSn k0 x) ∧ OnlyP B d p w w' := by
  have kb := SBlk.new w (snvals e x) 32
  have bb := below_alloc w (.cells (snvals e x) 32)
  obtain ⟨W0, eb⟩ : ∃ W0, w.alloc (.cells (snvals e x) 32) = W0 := ⟨_, rfl⟩
  rw [eb] at kb bb
  have h0 := SNK.ownBelow h bb (Nat.le_refl _)
  have on0 : OnlyP B d p w W0 := OnlyP.below bb (Nat.le_refl _) hB
  have hB0 : B ≤ W0.heap.size := Nat.le_trans hB bb.size
  have hdg : ¬ p <+: d w.heap.size := hd _ (Nat.le_refl _)
  obtain ⟨K1, eK1⟩ : ∃ K : Int, k0 + (bsum x.2.1 : Nat) = K := ⟨_, rfl⟩
  obtain ⟨K2, eK2⟩ : ∃ K : Int, K1 + (lsum rcT x.2.2.1 : Nat) = K := ⟨_, rfl⟩
  obtain ⟨K3, eK3⟩ : ∃ K : Int, K2 + (lsum vtT x.2.2.2 : Nat) = K := ⟨_, rfl⟩
  have hK3 : k0 + (snTot x : Nat) = K3 := by rw [← eK3, ← eK2, ← eK1]; unfold snTot; omega
  have hmk : mkSn k0 x = (x.1, mkss k0 x.2.1, mkR mkRc rcT K1 x.2.2.1, mkR mkVt vtT K2 x.2.2.2) := by unfold mkSn; rw [eK1, eK2]
  have tsb := t.sb
  have trb := t.rb
  have tvb := t.vb
  have D1 := hide (markSs_p B d (p ++ [1] ++ [0]) e.2.1 x.2.1 k0 W0 h0.2.1 hB0 (by have := t.s; omega) (by omega) hk0 (by omega))
  rw [eK1] at D1
  have D2 := hide (fun (W : World) (y : List (List Int)) (hW : SNK.Own W B d p e (x.1, y, x.2.2)) (hs : B ≤ W.heap.size) => markRc_p B d (p ++ [1] ++ [1] ++ [0]) e.2.2.1 x.2.2.1 K1 W hW.2.2.1 hs (by have := t.r; omega) (by omega) t.rz (by omega) (by omega))
  rw [eK2] at D2
  have D3 := hide (fun (W : World) (y : List (List Int)) (z : List Rc) (hW : SNK.Own W B d p e (x.1, y, z, x.2.2.2)) (hs : B ≤ W.heap.size) => markVt_p B d (p ++ [1] ++ [1] ++ [1]) e.2.2.2 x.2.2.2 K2 W hW.2.2.2 hs (by have := t.v; omega) (by omega) t.vz (by omega) (by omega))
  rw [eK3] at D3
  rw [hK3, hmk]
  have c0 := kb.cell 0
  have c1 := kb.cell 1
  have c2 := kb.cell 2
  have c3 := kb.cell 3
  simp only [snvals, Array.toList, List.getElem?_cons_zero, List.getElem?_cons_succ] at c0 c1 c2 c3
  have EB := hide eb
  have HK := hide kb
  have HO0 := hide (And.intro h0 (And.intro on0 hB0))
  clear eb kb bb h h0 on0 hB0 hd t tsb trb tvb hmk hK3 eK1 eK2 eK3
  unfold snvals at EB ⊢
  go_enter Tryz.func12, Tryz.ntmps12
  go_upto_region 1 with fail
  rw [unhide EB]
  clear EB
  go_wp2_with fail
  refine (unhide D1).mono ?_
  rintro r1 w2 ⟨rfl, n2, o2⟩
  have o2u : OnlyP B d p W0 w2 := o2.up.up
  have h2 : SNK.Own w2 B d p e (x.1, mkss k0 x.2.1, x.2.2) := pairR (unhide HO0).1 (pairL (unhide HO0).1.2 n2 o2) o2.up
  have k2 := o2u.sblk (unhide HK) hdg
  have hB2 := Nat.le_trans (unhide HO0).2.2 o2u.1.size
  have E2 := hide ((unhide D2) w2 _ h2 hB2)
  have c2 := k2.cell 2
  simp only [snvals, Array.toList, List.getElem?_cons_zero, List.getElem?_cons_succ] at c2
  have HK2 := hide k2
  have HH2 := hide (And.intro h2 (And.intro ((unhide HO0).2.1.trans o2u) hB2))
  clear n2 o2 o2u h2 k2 hB2 D1 D2 c0 c1 c3
  go_wp2_with fail
  refine (unhide E2).mono ?_
  rintro r1 w3 ⟨rfl, n3, o3⟩
  have o3u : OnlyP B d p w2 w3 := o3.up.up.up
  have h3 : SNK.Own w3 B d p e (x.1, mkss k0 x.2.1, mkR mkRc rcT K1 x.2.2.1, x.2.2.2) := pairR (x := (x.1, mkss k0 x.2.1, x.2.2)) (unhide HH2).1 (pairR (x := (mkss k0 x.2.1, x.2.2)) (unhide HH2).1.2 (pairL (x := x.2.2) (unhide HH2).1.2.2 n3 o3) o3.up) o3.up.up
  have k3 := o3u.sblk (unhide HK2) hdg
  have hB3 := Nat.le_trans (unhide HH2).2.2 o3u.1.size
  have E3 := hide ((unhide D3) w3 _ _ h3 hB3)
  have c3 := k3.cell 3
  simp only [snvals, Array.toList, List.getElem?_cons_zero, List.getElem?_cons_succ] at c3
  have HH3 := hide (And.intro h3 (And.intro ((unhide HH2).2.1.trans o3u) hB3))
  clear n3 o3 o3u h3 k3 hB3 E2 D3 c2
  go_wp2_with fail
  refine (unhide E3).mono ?_
  rintro r1 w4 ⟨rfl, n4, o4⟩
  have h4 : SNK.Own w4 B d p e (x.1, mkss k0 x.2.1, mkR mkRc rcT K1 x.2.2.1, mkR mkVt vtT K2 x.2.2.2) := pairR (x := (x.1, mkss k0 x.2.1, mkR mkRc rcT K1 x.2.2.1, x.2.2.2)) (unhide HH3).1 (pairR (x := (mkss k0 x.2.1, mkR mkRc rcT K1 x.2.2.1, x.2.2.2)) (unhide HH3).1.2 (pairR (x := (mkR mkRc rcT K1 x.2.2.1, x.2.2.2)) (unhide HH3).1.2.2 n4 o4) o4.up) o4.up.up
  have HH4 := hide (And.intro h4 ((unhide HH3).2.1.trans o4.up.up.up))
  clear n4 o4 h4 E3 c3
  go_wp2_with fail
  go_ret
  exact ⟨rfl, (unhide HH4).1, (unhide HH4).2⟩

set_option maxHeartbeats 4000000 in
theorem markSnR_p (q : Int) (B : Nat) (d : Nat → Path) (p : Path) (e : SnS) (x : Sn) (k0 : Int) (w : World) (h : SNK.Own w B d p e x) (t : SnT x) (hB : B ≤ w.heap.size) (hk0 : 0 ≤ k0) (hk1 : k0 ≤ 8388608) (hd : ∀ g, w.heap.size ≤ g → ¬ p <+: d g) :
    Calls Tryz.prog 14 #[.agg (srvals q e x), .int .i64 k0] w fun r w' => r = .returned (.int .i64 (k0 + (snTot x : Nat))) ∧ SNK.Own w' B d p e (mkSn k0 x) ∧ OnlyP B d p w w' := by
  have kb := SBlk.new w (srvals q e x) 34
  have bb := below_alloc w (.cells (srvals q e x) 34)
  obtain ⟨W0, eb⟩ : ∃ W0, w.alloc (.cells (srvals q e x) 34) = W0 := ⟨_, rfl⟩
  rw [eb] at kb bb
  have D1 := hide (markSn_p B d p e x k0 W0 (SNK.ownBelow h bb (Nat.le_refl _)) t (Nat.le_trans hB bb.size) hk0 hk1 (fun g hg => hd g (Nat.le_trans bb.size hg)))
  have on := hide (OnlyP.below (B := B) (d := d) (p := p) bb (Nat.le_refl _) hB)
  obtain ⟨⟨u0, u1, u2, u3, u4⟩, _⟩ := five_blk kb
  have EB := hide eb
  clear eb kb bb h hd t
  generalize mkSn k0 x = MX at D1 ⊢
  generalize snTot x = tot at D1 ⊢
  unfold srvals at EB ⊢
  unfold snvals at D1
  go_enter Tryz.func14, Tryz.ntmps14
  go_upto_region 1 with fail
  rw [unhide EB]
  clear EB
  go_wp2_with fail
  refine (unhide D1).mono ?_
  rintro e w2 ⟨rfl, c2, o2⟩
  have HO := hide ((unhide on).trans o2)
  have HC := hide c2
  clear o2 c2
  go_wp2_with fail
  go_ret
  exact ⟨rfl, unhide HC, unhide HO⟩

set_option maxHeartbeats 4000000 in
theorem heldSn_any (e : SnS) (x : Sn) (k0 : Int) (w : World) (h : SNK.Ok w e (mkSn k0 x)) (t : SnT x) (hk0 : 0 ≤ k0) (hk1 : k0 ≤ 8388608) :
    Calls Tryz.prog 40 #[.agg (snvals e x), .int .i64 k0] w fun r w' => r = .returned (.int .i64 (k0 + (snTot x : Nat))) ∧ Below w.heap.size w w' := by
  have kb := SBlk.new w (snvals e x) 32
  have bb := below_alloc w (.cells (snvals e x) 32)
  obtain ⟨W0, eb⟩ : ∃ W0, w.alloc (.cells (snvals e x) 32) = W0 := ⟨_, rfl⟩
  rw [eb] at kb bb
  have h0 := SNK.below h bb (Nat.le_refl _)
  obtain ⟨K1, eK1⟩ : ∃ K : Int, k0 + (bsum x.2.1 : Nat) = K := ⟨_, rfl⟩
  obtain ⟨K2, eK2⟩ : ∃ K : Int, K1 + (lsum rcT x.2.2.1 : Nat) = K := ⟨_, rfl⟩
  obtain ⟨K3, eK3⟩ : ∃ K : Int, K2 + (lsum vtT x.2.2.2 : Nat) = K := ⟨_, rfl⟩
  have hK3 : k0 + (snTot x : Nat) = K3 := by rw [← eK3, ← eK2, ← eK1]; unfold snTot; omega
  have hmk : mkSn k0 x = (x.1, mkss k0 x.2.1, mkR mkRc rcT K1 x.2.2.1, mkR mkVt vtT K2 x.2.2.2) := by unfold mkSn; rw [eK1, eK2]
  rw [hmk] at h0
  have tsb := t.sb
  have trb := t.rb
  have tvb := t.vb
  have D1 := hide (heldSS_any e.2.1.a e.2.1.n e.2.1.c x.2.1 k0 W0 (bs_of_row h0.2.1) (by have := t.s; omega) (by omega) hk0 (by omega))
  rw [eK1] at D1
  have D2 := hide (heldRc_any e.2.2.1 x.2.2.1 K1 W0 h0.2.2.1 (by have := t.r; omega) (by omega) t.rz (by omega) (by omega))
  rw [eK2] at D2
  have D3 := hide (heldVt_any e.2.2.2 x.2.2.2 K2 W0 h0.2.2.2 (by have := t.v; omega) (by omega) t.vz (by omega) (by omega))
  rw [eK3] at D3
  rw [hK3]
  have d1 : decide (K1 < 0) = false := decide_eq_false (by omega)
  have d2 : decide (K2 < 0) = false := decide_eq_false (by omega)
  have d3 : decide (K3 < 0) = false := decide_eq_false (by omega)
  have c0 := kb.cell 0
  have c1 := kb.cell 1
  have c2 := kb.cell 2
  have c3 := kb.cell 3
  simp only [snvals, Array.toList, List.getElem?_cons_zero, List.getElem?_cons_succ] at c0 c1 c2 c3
  have EB := hide eb
  have HBB := hide bb
  clear eb kb bb h h0 t tsb trb tvb hmk hK3 eK1 eK2 eK3
  unfold snvals at EB ⊢
  go_enter Tryz.func40, Tryz.ntmps40
  go_upto_region 1 with fail
  rw [unhide EB]
  clear EB
  go_wp2_with fail
  refine (unhide D1).mono ?_
  rintro r1 w2 ⟨rfl, rfl⟩
  go_wp2_with fail
  refine (unhide D2).mono ?_
  rintro r1 w3 ⟨rfl, rfl⟩
  go_wp2_with fail
  refine (unhide D3).mono ?_
  rintro r1 w4 ⟨rfl, rfl⟩
  go_wp2_with fail
  go_ret
  exact ⟨rfl, unhide HBB⟩

set_option maxHeartbeats 4000000 in
theorem heldSnR_any (q : Int) (e : SnS) (x : Sn) (k0 : Int) (w : World) (h : SNK.Ok w e (mkSn k0 x)) (t : SnT x) (hk0 : 0 ≤ k0) (hk1 : k0 ≤ 8388608) :
    Calls Tryz.prog 15 #[.agg (srvals q e x), .int .i64 k0] w fun r w' => r = .returned (.int .i64 (k0 + (snTot x : Nat))) ∧ Below w.heap.size w w' := by
  have kb := SBlk.new w (srvals q e x) 34
  have bb := below_alloc w (.cells (srvals q e x) 34)
  obtain ⟨W0, eb⟩ : ∃ W0, w.alloc (.cells (srvals q e x) 34) = W0 := ⟨_, rfl⟩
  rw [eb] at kb bb
  have D1 := hide (heldSn_any e x k0 W0 (SNK.below h bb (Nat.le_refl _)) t hk0 hk1)
  have HBB := hide bb
  obtain ⟨⟨u0, u1, u2, u3, u4⟩, _⟩ := five_blk kb
  have EB := hide eb
  clear eb kb bb h t
  generalize snTot x = tot at D1 ⊢
  obtain ⟨K, eK⟩ : ∃ K : Int, k0 + (tot : Nat) = K := ⟨_, rfl⟩
  have dK : decide (K < 0) = false := decide_eq_false (by omega)
  rw [eK] at D1 ⊢
  clear eK
  unfold srvals at EB ⊢
  unfold snvals at D1
  go_enter Tryz.func15, Tryz.ntmps15
  go_upto_region 1 with fail
  rw [unhide EB]
  clear EB
  go_wp2_with fail
  refine (unhide D1).mono ?_
  rintro e w2 ⟨rfl, b2⟩
  have HB2 := hide ((unhide HBB).trans (b2.mono (unhide HBB).size))
  clear b2
  go_wp2_with fail
  go_ret
  exact ⟨rfl, unhide HB2⟩

set_option maxHeartbeats 4000000 in
theorem eqSnR_same (c : Int) (e f : SnS) (x : Sn) (w : World) (o : SNK.Ok w e x) (q : SNK.Ok w f x) (m : SnSm x) :
    Calls Tryz.prog 9 #[.agg (srvals c e x), .agg (srvals c f x)] w fun r w' => r = .returned (.bool true) ∧ Below w.heap.size w w' := by
  have ka := SBlk.new w (srvals c e x) 34
  have ba := below_alloc w (.cells (srvals c e x) 34)
  have za : (w.alloc (.cells (srvals c e x) 34)).heap.size = w.heap.size + 1 := by simp
  obtain ⟨W0, ea⟩ : ∃ W0, w.alloc (.cells (srvals c e x) 34) = W0 := ⟨_, rfl⟩
  rw [ea] at ka ba za
  have kb := SBlk.new W0 (srvals c f x) 34
  have k1 := ka.next (.cells (srvals c f x) 34)
  have bb := ba.trans ((below_alloc W0 (.cells (srvals c f x) 34)).mono ba.size)
  obtain ⟨W1, eb⟩ : ∃ W1, W0.alloc (.cells (srvals c f x) 34) = W1 := ⟨_, rfl⟩
  rw [za] at kb
  rw [eb] at kb k1 bb
  have D1 := hide (eqSnap_any e f x x W1 (SNK.below o bb (Nat.le_refl _)) (SNK.below q bb (Nat.le_refl _)) m m)
  rw [snSame_self] at D1
  have HBB := hide bb
  have h1 : (c != c) = false := by simp
  obtain ⟨⟨u0, u1, u2, u3, u4⟩, _⟩ := five_blk k1
  obtain ⟨⟨v0, v1, v2, v3, v4⟩, _⟩ := five_blk kb
  have EA := hide ea
  have EB := hide eb
  clear ea eb ka kb k1 ba bb o q za m
  unfold srvals at EA EB ⊢
  unfold snvals at D1
  go_enter Tryz.func9, Tryz.ntmps9
  go_upto_region 1 with fail
  rw [unhide EA, unhide EB]
  clear EA EB
  go_wp2_with fail
  refine (unhide D1).mono ?_
  rintro e w2 ⟨rfl, b2⟩
  have HB2 := hide ((unhide HBB).trans (b2.mono (unhide HBB).size))
  clear b2
  go_wp2_with fail
  go_ret
  exact ⟨rfl, unhide HB2⟩

end Go.Proofs.YtfhhnnlafdgloaaGreat

/- What is proved here: plain facts on snapshots without a fault: what a vote makes of one has none; no program is named. -/
namespace Go.Proofs.YtfhhnnlafdgloaaGreat
open Go.RowKit
set_option linter.unusedVariables false
set_option maxRecDepth 100000

/-- A vote on its own. -/
def VtOk (sg : List (List Int)) (v : Vt) : Prop := v.1.length = 4 ∧ v.2.1.length = 4 ∧ v.1 ∈ sg ∧ v.2.2 ≠ decide (v.2.1 ∈ sg)

theorem vtOne_ok {sg : List (List Int)} {seen : List (List Int × List Int)} {v : Vt} (h : VtOk sg v) (hn : (v.1, v.2.1) ∉ seen) : vtOne sg seen v = 0 := by
  obtain ⟨h1, h2, h3, h4⟩ := h
  unfold vtOne
  rw [if_neg (by simp [h1, h2]), if_neg (by simp [h3]), if_neg (by simpa using h4), if_neg (by simp [hn])]

theorem vtFrom_ok {sg : List (List Int)} {vs : List Vt} (h : ∀ v ∈ vs, VtOk sg v) (hn : (vtKeys vs).Nodup) : ∀ (n k : Nat), n = vs.length - k → k ≤ vs.length → vtFrom sg vs k (vs.drop k) = 0 := by
  intro n
  induction n with
  | zero => intro k hk hl; rw [List.drop_eq_nil_of_le (by omega)]; rfl
  | succ n ih =>
    intro k hk hl
    obtain ⟨v, hv⟩ : ∃ v, vs[k]? = some v := ⟨_, List.getElem?_eq_getElem (by omega)⟩
    rw [vtFrom_step sg vs k v hv, if_pos]
    · exact ih (k + 1) (by omega) (by omega)
    · refine vtOne_ok (h v (List.mem_of_getElem? hv)) (fun hm => ?_)
      have e : vtKeys vs = vtKeys (vs.take (k + 1)) ++ vtKeys (vs.drop (k + 1)) := by unfold vtKeys; rw [← List.map_append, List.take_append_drop]
      rw [e, vtKeys_snoc vs k v hv] at hn
      have hn' := (List.nodup_append.1 hn).1
      exact (List.nodup_append.1 hn').2.2 _ hm _ (by simp) rfl

theorem vt_iff {sg : List (List Int)} {vs : List Vt} : vtFrom sg vs 0 vs = 0 ↔ (∀ v ∈ vs, VtOk sg v) ∧ (vtKeys vs).Nodup := by
  constructor
  · intro h
    refine ⟨fun v hv => ?_, vtKeys_nodup h⟩
    obtain ⟨k, hk⟩ := List.getElem?_of_mem hv
    have h1 := vtOne_zero (vtOne_all h k v hk)
    exact ⟨h1.1, h1.2.1, h1.2.2.1, h1.2.2.2.1⟩
  · rintro ⟨h, hn⟩
    have := vtFrom_ok h hn _ 0 rfl (Nat.zero_le _)
    simpa using this

theorem sg_iff {zss : List (List Int)} : sgFlt zss = 0 ↔ zss.length ≤ 7 ∧ (∀ z ∈ zss, z.length = 4) ∧ zss.Pairwise (fun x y => aheadB x y = true) := by
  constructor
  · intro h
    obtain ⟨h1, h2, h3⟩ := sg_rise h
    refine ⟨h1, h2, List.pairwise_iff_getElem.2 (fun i j hi hj hij => h3 i j _ _ hij (List.getElem?_eq_getElem hi) (List.getElem?_eq_getElem hj))⟩
  · rintro ⟨h1, h2, h3⟩
    unfold sgFlt
    rw [if_neg (by omega)]
    have key : ∀ (n k : Nat), n = zss.length - k → k ≤ zss.length → sgFrom zss k (zss.drop k) = 0 := by
      intro n
      induction n with
      | zero => intro k hk hl; exact sgFrom_end zss k (by omega)
      | succ n ih =>
        intro k hk hl
        obtain ⟨z, hz⟩ : ∃ z, zss[k]? = some z := ⟨_, List.getElem?_eq_getElem (by omega)⟩
        rw [sgFrom_step zss k z hz, if_neg]
        · exact ih (k + 1) (by omega) (by omega)
        · unfold sgBad
          have hz4 := h2 z (List.mem_of_getElem? hz)
          rcases Nat.eq_zero_or_pos k with h0 | hp
          · subst h0
            simp [hz4]
          · have hkl : k < zss.length := (List.getElem?_eq_some_iff.1 hz).1
            have ea : aheadB (zss.getD (k - 1) []) z = true := by
              rw [List.getD_eq_getElem?_getD, List.getElem?_eq_getElem (by omega : k - 1 < zss.length)]
              have e2 : zss[k] = z := (List.getElem?_eq_some_iff.1 hz).2
              rw [← e2]
              exact List.pairwise_iff_getElem.1 h3 (k - 1) k (by omega) hkl (by omega)
            rw [ea, hz4]
            simp
    have := key _ 0 rfl (Nat.zero_le _)
    simpa using this

theorem rc_iff {last : Int} : ∀ {rs : List Rc} {least : Int}, rcFrom last least rs = 0 ↔ (∀ r ∈ rs, r.2.length = 4 ∧ least ≤ r.1 ∧ r.1 ≤ last) ∧ rs.Pairwise (fun a b => a.1 < b.1)
  | [], least => by simp [rcFrom]
  | r :: t, least => by
    unfold rcFrom
    have ih := rc_iff (last := last) (rs := t) (least := r.1 + 1)
    have ho : rcOne last least r = 0 ↔ r.2.length = 4 ∧ least ≤ r.1 ∧ r.1 ≤ last := by
      unfold rcOne within
      constructor
      · intro h
        split at h
        · omega
        · rename_i h1
          split at h
          · omega
          · rename_i h2
            simp at h1 h2
            exact ⟨h1, h2⟩
      · rintro ⟨h1, h2⟩
        rw [if_neg (by simp [h1]), if_neg (by simp [h2])]
    constructor
    · intro h
      split at h
      · rename_i h1
        obtain ⟨a1, a2⟩ := ih.1 h
        have h1' := ho.1 h1
        refine ⟨fun q hq => ?_, List.pairwise_cons.2 ⟨fun q hq => ?_, a2⟩⟩
        · rcases List.mem_cons.1 hq with e | e
          · subst e; exact h1'
          · have := a1 q e; exact ⟨this.1, by omega, this.2.2⟩
        · have := a1 q hq; omega
      · rename_i h1
        exact absurd h h1
    · rintro ⟨h1, h2⟩
      obtain ⟨p1, p2⟩ := List.pairwise_cons.1 h2
      rw [if_pos (ho.2 (h1 r (by simp)))]
      exact ih.2 ⟨fun q hq => ⟨(h1 q (by simp [hq])).1, by have := p1 q hq; omega, (h1 q (by simp [hq])).2.2⟩, p2⟩

/-- A snapshot without a fault. -/
theorem sn_iff {x : Sn} : snFlt x = 0 ↔ within x.1 0 1099511627776 = true ∧ 0 < x.2.1.length ∧ (x.2.1.length ≤ 7 ∧ (∀ z ∈ x.2.1, z.length = 4) ∧ x.2.1.Pairwise (fun a b => aheadB a b = true)) ∧ x.2.2.1.length ≤ 7 ∧ x.2.2.2.length ≤ 30 ∧ ((∀ r ∈ x.2.2.1, r.2.length = 4 ∧ 0 ≤ r.1 ∧ r.1 ≤ x.1) ∧ x.2.2.1.Pairwise (fun a b => a.1 < b.1)) ∧ (∀ v ∈ x.2.2.2, VtOk x.2.1 v) ∧ (vtKeys x.2.2.2).Nodup := by
  rw [← sg_iff, ← rc_iff, ← vt_iff]
  have hs : sgSome x.2.1 = 0 ↔ 0 < x.2.1.length ∧ sgFlt x.2.1 = 0 := by
    unfold sgSome
    constructor
    · intro h
      split at h
      · omega
      · exact ⟨by omega, h⟩
    · rintro ⟨h1, h2⟩
      rw [if_neg (by omega)]
      exact h2
  unfold snFlt
  constructor
  · intro h
    split at h
    · omega
    · rename_i h1
      split at h
      · rename_i h2; exact absurd h h2
      · rename_i h2
        split at h
        · omega
        · rename_i h3
          split at h
          · rename_i h4; exact absurd h h4
          · rename_i h4
            obtain ⟨p1, p2⟩ := hs.1 (Decidable.of_not_not h2)
            exact ⟨by simpa using h1, p1, p2, by omega, by omega, Decidable.of_not_not h4, h⟩
  · rintro ⟨h1, h2, h3, h4, h5, h6, h7⟩
    rw [if_neg (by simp [h1]), if_neg (by simp [hs.2 ⟨h2, h3⟩]), if_neg (by omega), if_neg (by simp [h6])]
    exact h7

end Go.Proofs.YtfhhnnlafdgloaaGreat

/- What is proved here: what a vote makes of a snapshot without a fault has none; no program is named. -/
namespace Go.Proofs.YtfhhnnlafdgloaaGreat
open Go.RowKit
set_option linter.unusedVariables false
set_option maxRecDepth 100000
set_option linter.unusedSimpArgs false

def Byt (z : List Int) : Prop := ∀ b ∈ z, 0 ≤ b ∧ b ≤ 255

theorem less_total : ∀ (a b : List UInt8), a ≠ b → Op.bytesLess a b = false → Op.bytesLess b a = true
  | [], [], h, _ => absurd rfl h
  | [], _ :: _, _, h => by simp [Op.bytesLess] at h
  | _ :: _, [], _, _ => by simp [Op.bytesLess]
  | x :: a, y :: b, h, h1 => by
    simp only [Op.bytesLess, Bool.or_eq_false_iff, decide_eq_false_iff_not, Bool.and_eq_false_iff, beq_eq_false_iff_ne, ne_eq] at h1
    simp only [Op.bytesLess, Bool.or_eq_true, decide_eq_true_eq, Bool.and_eq_true, beq_iff_eq]
    obtain ⟨h2, h3⟩ := h1
    by_cases e : x = y
    · subst e
      refine .inr ⟨rfl, less_total a b (fun e => h (by rw [e])) ?_⟩
      rcases h3 with h3 | h3
      · exact absurd rfl h3
      · exact h3
    · refine .inl ?_
      rcases Nat.lt_trichotomy y.toNat x.toNat with h4 | h4 | h4
      · exact UInt8.lt_iff_toNat_lt.2 h4
      · exact absurd (UInt8.toNat_inj.1 h4.symm) e
      · exact absurd (UInt8.lt_iff_toNat_lt.2 h4) h2

theorem ahead_total {a b : List Int} (ha : Byt a) (hb : Byt b) (h : a ≠ b) (h1 : aheadB a b = false) : aheadB b a = true := by
  rw [aheadB_def] at *
  exact less_total _ _ (fun e => h (bytesOf_inj a b ha hb e)) h1

theorem less_ok {x : Sn} (h : snFlt x = 0) (s t : List Int) : snFlt (lessSn x s t) = 0 := by
  obtain ⟨h1, h2, h3, h4, h5, h6, h7, h8⟩ := sn_iff.1 h
  refine sn_iff.2 ⟨h1, h2, h3, h4, Nat.le_trans (List.length_filter_le _ _) h5, h6, fun v hv => h7 v (List.mem_filter.1 hv).1, ?_⟩
  exact List.Nodup.sublist (List.Sublist.map _ List.filter_sublist) h8

theorem with_ok {x : Sn} (h : snFlt x = 0) {s t : List Int} {add : Bool} (hs : s.length = 4) (ht : t.length = 4) (hm : s ∈ x.2.1) (ha : add ≠ decide (t ∈ x.2.1)) (hl : ¬ 30 ≤ (lessSn x s t).2.2.2.length) : snFlt (withVt x s t add) = 0 := by
  obtain ⟨h1, h2, h3, h4, h5, h6, h7, h8⟩ := sn_iff.1 (less_ok h s t)
  refine sn_iff.2 ⟨h1, h2, h3, h4, ?_, h6, fun v hv => ?_, ?_⟩
  · show ((lessSn x s t).2.2.2 ++ [_]).length ≤ 30
    rw [List.length_append]
    simp only [List.length_cons, List.length_nil]
    omega
  · have hv' : v ∈ (lessSn x s t).2.2.2 ++ [(s, t, add)] := hv
    rcases List.mem_append.1 hv' with hv | hv
    · exact h7 v hv
    · simp at hv
      subst hv
      exact ⟨hs, ht, hm, ha⟩
  · show (vtKeys ((lessSn x s t).2.2.2 ++ [(s, t, add)])).Nodup
    unfold vtKeys
    rw [List.map_append, List.nodup_append]
    refine ⟨h8, by simp, fun a ha' b hb => ?_⟩
    rintro rfl
    simp only [List.map_cons, List.map_nil, List.mem_singleton] at hb
    subst hb
    obtain ⟨v, hv, he⟩ := List.mem_map.1 ha'
    have hk := (List.mem_filter.1 hv).2
    simp only [Prod.mk.injEq] at he
    unfold keepV at hk
    simp [he.1, he.2] at hk

theorem mem_put {zss : List (List Int)} {t z : List Int} : z ∈ putL zss t ↔ z = t ∨ z ∈ zss := by
  unfold putL
  have e : zss.take (plB zss t) ++ zss.drop (plB zss t) = zss := List.take_append_drop _ _
  constructor
  · intro h
    simp only [List.mem_append, List.mem_singleton] at h
    rcases h with (h | h) | h
    · exact .inr (List.mem_of_mem_take h)
    · exact .inl h
    · exact .inr (List.mem_of_mem_drop h)
  · rintro (h | h)
    · subst h; simp
    · rw [← e] at h
      simp only [List.mem_append, List.mem_singleton] at h ⊢
      rcases h with h | h
      · exact .inl (.inl h)
      · exact .inr h

theorem put_ok {zss : List (List Int)} {t : List Int} (hp : zss.Pairwise (fun a b => aheadB a b = true)) (hb : ∀ z ∈ zss, Byt z) (hbt : Byt t) (hn : t ∉ zss) : (putL zss t).Pairwise (fun a b => aheadB a b = true) := by
  have hr : ∀ (i j : Nat) (x y : List Int), i < j → zss[i]? = some x → zss[j]? = some y → aheadB x y = true := fun i j x y hij hx hy => by
    obtain ⟨hi, rfl⟩ := List.getElem?_eq_some_iff.1 hx
    obtain ⟨hj, rfl⟩ := List.getElem?_eq_some_iff.1 hy
    exact List.pairwise_iff_getElem.1 hp i j hi hj hij
  have lo : ∀ z ∈ zss.take (plB zss t), aheadB z t = true := fun z hz => by
    obtain ⟨i, hi⟩ := List.getElem?_of_mem hz
    have hil := (List.getElem?_eq_some_iff.1 hi).1
    rw [List.length_take] at hil
    rw [List.getElem?_take, if_pos (by omega)] at hi
    rw [plB_iff hr t i z hi]
    exact decide_eq_true (by omega)
  have hi' : ∀ z ∈ zss.drop (plB zss t), aheadB t z = true := fun z hz => by
    obtain ⟨i, hi⟩ := List.getElem?_of_mem hz
    rw [List.getElem?_drop] at hi
    have hm : z ∈ zss := List.mem_of_getElem? hi
    have h1 := plB_iff hr t _ z hi
    rw [decide_eq_false (by omega)] at h1
    exact ahead_total (hb z hm) hbt (fun e => hn (e ▸ hm)) h1
  have hp' := hp
  rw [← List.take_append_drop (plB zss t) zss] at hp'
  obtain ⟨p1, p2, p3⟩ := List.pairwise_append.1 hp'
  unfold putL
  rw [List.append_assoc]
  refine List.pairwise_append.2 ⟨p1, ?_, fun a ha b hb' => ?_⟩
  · rw [List.singleton_append]
    exact List.pairwise_cons.2 ⟨hi', p2⟩
  · rw [List.singleton_append] at hb'
    rcases List.mem_cons.1 hb' with e | e
    · subst e; exact lo a ha
    · exact p3 a ha b e

theorem wonIn_ok {x : Sn} (h : snFlt x = 0) {t : List Int} (ht : t.length = 4) (hb : ∀ z ∈ x.2.1, Byt z) (hbt : Byt t) (hn : t ∉ x.2.1) (hl : x.2.1.length < 7) : snFlt (wonIn x t) = 0 := by
  obtain ⟨h1, h2, ⟨h3a, h3b, h3c⟩, h4, h5, h6, h7, h8⟩ := sn_iff.1 h
  refine sn_iff.2 ⟨h1, ?_, ⟨?_, fun z hz => ?_, put_ok h3c hb hbt hn⟩, h4, Nat.le_trans (List.length_filter_le _ _) h5, h6, fun v hv => ?_, List.Nodup.sublist (List.Sublist.map _ List.filter_sublist) h8⟩
  · show 0 < (putL x.2.1 t).length
    rw [putL_length]; omega
  · show (putL x.2.1 t).length ≤ 7
    rw [putL_length]; omega
  · rcases mem_put.1 hz with e | e
    · rw [e]; exact ht
    · exact h3b z e
  · obtain ⟨hv1, hv2⟩ := List.mem_filter.1 hv
    obtain ⟨a1, a2, a3, a4⟩ := h7 v hv1
    have hne : v.2.1 ≠ t := fun e => by
      unfold keepV at hv2
      simp [e] at hv2
    refine ⟨a1, a2, mem_put.2 (.inr a3), ?_⟩
    show v.2.2 ≠ decide (v.2.1 ∈ putL x.2.1 t)
    rw [show decide (v.2.1 ∈ putL x.2.1 t) = decide (v.2.1 ∈ x.2.1) from decide_eq_decide.2 ⟨fun hm => (mem_put.1 hm).resolve_left hne, fun hm => mem_put.2 (.inr hm)⟩]
    exact a4

theorem mem_out {zss : List (List Int)} {K : Nat} {t z : List Int} (hK : zss[K]? = some t) (hz : z ≠ t) : z ∈ outL zss K ↔ z ∈ zss := by
  unfold outL
  have hk := (List.getElem?_eq_some_iff.1 hK).1
  have e : zss = zss.take K ++ t :: zss.drop (K + 1) := by
    have e1 : zss[K] = t := (List.getElem?_eq_some_iff.1 hK).2
    rw [← e1, ← List.drop_eq_getElem_cons hk, List.take_append_drop]
  constructor
  · intro h
    rcases List.mem_append.1 h with h | h
    · exact List.mem_of_mem_take h
    · exact List.mem_of_mem_drop h
  · intro h
    rw [e] at h
    rcases List.mem_append.1 h with h | h
    · exact List.mem_append.2 (.inl h)
    · rcases List.mem_cons.1 h with h | h
      · exact absurd h hz
      · exact List.mem_append.2 (.inr h)

theorem out_sub {α : Type} (xs : List α) (K : Nat) : (outL xs K).Sublist xs := by
  unfold outL
  have h := List.Sublist.append (List.Sublist.refl (xs.take K)) (List.drop_sublist_drop_left xs (Nat.le_succ K))
  rw [List.take_append_drop] at h
  exact h

theorem keepLast_sub {α : Type} (xs : List α) (h : Nat) : (keepLast xs h).Sublist xs := by
  unfold keepLast
  split
  · exact List.drop_sublist _ _
  · exact List.Sublist.refl _

theorem at_at {zss : List (List Int)} {t : List Int} (h : t ∈ zss) : zss[(atFrom t 0 zss).toNat]? = some t := by
  have key : ∀ (l : List (List Int)) (k : Nat), t ∈ l → ∃ K : Nat, atFrom t k l = ((k + K : Nat) : Int) ∧ l[K]? = some t := by
    intro l
    induction l with
    | nil => intro k h; cases h
    | cons y r ih =>
      intro k h
      unfold atFrom
      by_cases hy : y = t
      · exact ⟨0, by rw [if_pos hy]; simp, by simp [hy]⟩
      · rw [if_neg hy]
        obtain ⟨K, h1, h3⟩ := ih (k + 1) ((List.mem_cons.1 h).resolve_left (fun e => hy e.symm))
        exact ⟨K + 1, by rw [h1]; congr 1; omega, by simpa using h3⟩
  obtain ⟨K, h1, h2⟩ := key zss 0 h
  rw [h1, show ((0 + K : Nat) : Int).toNat = K by omega]
  exact h2

theorem wonOut_ok {x : Sn} (h : snFlt x = 0) {t : List Int} (ht : t.length = 4) (hm : t ∈ x.2.1) (hl : 1 < x.2.1.length) : snFlt (wonOut x t) = 0 := by
  obtain ⟨h1, h2, ⟨h3a, h3b, h3c⟩, h4, h5, ⟨h6a, h6b⟩, h7, h8⟩ := sn_iff.1 h
  have hK := at_at hm
  have hk := (List.getElem?_eq_some_iff.1 hK).1
  unfold wonOut
  generalize (atFrom t 0 x.2.1).toNat = K at hK hk ⊢
  have hs := out_sub x.2.1 K
  have hln : (outL x.2.1 K).length = x.2.1.length - 1 := by unfold outL; rw [List.length_append, List.length_take, List.length_drop]; omega
  have hr := keepLast_sub x.2.2.1 ((outL x.2.1 K).length / 2)
  have hvs : ((lessSn (lessSn x [] t) t []).2.2.2).Sublist x.2.2.2 := List.filter_sublist.trans List.filter_sublist
  refine sn_iff.2 ⟨h1, by show 0 < (outL x.2.1 K).length; omega, ⟨by show (outL x.2.1 K).length ≤ 7; omega, fun z hz => h3b z (hs.subset hz), h3c.sublist hs⟩, Nat.le_trans hr.length_le h4, Nat.le_trans hvs.length_le h5, ⟨fun r hr' => h6a r (hr.subset hr'), h6b.sublist hr⟩, fun v hv => ?_, List.Nodup.sublist (List.Sublist.map _ hvs) h8⟩
  obtain ⟨hv1, hv2⟩ := List.mem_filter.1 hv
  obtain ⟨hv3, hv4⟩ := List.mem_filter.1 hv1
  obtain ⟨a1, a2, a3, a4⟩ := h7 v hv3
  have ne1 : v.1 ≠ t := fun e => by
    unfold keepV at hv2
    simp [e] at hv2
  have ne2 : v.2.1 ≠ t := fun e => by
    unfold keepV at hv4
    simp [e] at hv4
  refine ⟨a1, a2, (mem_out hK ne1).2 a3, ?_⟩
  show v.2.2 ≠ decide (v.2.1 ∈ outL x.2.1 K)
  rw [show decide (v.2.1 ∈ outL x.2.1 K) = decide (v.2.1 ∈ x.2.1) from decide_eq_decide.2 (mem_out hK ne2)]
  exact a4

/-- Whatever is voted a snapshot has no fault. -/
theorem ct_ok {x : Sn} (h : snFlt x = 0) {s t : List Int} {add : Bool} (hs : s.length = 4) (ht : t.length = 4) (hm : s ∈ x.2.1) (hb : ∀ z ∈ x.2.1, Byt z) (hbt : Byt t) : snFlt (ctSn x s t add) = 0 := by
  unfold ctSn
  by_cases h1 : add = decide (t ∈ x.2.1)
  · rw [if_pos h1]
    exact less_ok h s t
  · rw [if_neg h1]
    by_cases h2 : 30 ≤ (lessSn x s t).2.2.2.length
    · rw [if_pos h2]
      exact h
    · rw [if_neg h2]
      have hw := with_ok h hs ht hm h1 h2
      by_cases h3 : 2 * tlOf t (vtKeys (withVt x s t add).2.2.2) ≤ x.2.1.length
      · rw [if_pos h3]
        exact hw
      · rw [if_neg h3]
        unfold wonSn
        cases add with
        | true =>
          rw [if_pos rfl]
          by_cases h7 : 7 ≤ (withVt x s t true).2.1.length
          · rw [if_pos h7]
            exact hw
          · rw [if_neg h7]
            have hn : t ∉ x.2.1 := fun hm' => h1 (by rw [decide_eq_true hm'])
            exact wonIn_ok hw ht hb hbt hn (by omega)
        | false =>
          rw [if_neg (by decide)]
          by_cases h7 : (withVt x s t false).2.1.length = 1
          · rw [if_pos h7]
            exact hw
          · rw [if_neg h7]
            have hm' : t ∈ x.2.1 := by
              rcases Decidable.em (t ∈ x.2.1) with h' | h'
              · exact h'
              · exact absurd (by rw [decide_eq_false h']) h1
            have hl : 0 < x.2.1.length := (sn_iff.1 h).2.1
            exact wonOut_ok hw ht hm' (by have e : (withVt x s t false).2.1.length = x.2.1.length := rfl; omega)

end Go.Proofs.YtfhhnnlafdgloaaGreat
