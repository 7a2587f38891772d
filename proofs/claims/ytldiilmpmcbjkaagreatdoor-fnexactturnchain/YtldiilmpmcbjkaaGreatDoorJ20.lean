/- What is proved here: what the model's l5Pack answers for a header without a fault: its bytes. -/
import Derived.Test.YtldiilmpmcbjkaaGreatDoorJ10
namespace Go.Proofs.YtldiilmpmcbjkaaGreatDoor
open Go.RowKit
set_option linter.unusedVariables false
set_option maxRecDepth 100000

/-- What a call that makes bytes R leaves behind: the bytes, all that was owned, and what was there ahead of B. -/
def Made (B : Nat) (w W : World) (R : List Int) (e : Ending) (w' : World) : Prop :=
  ∃ a c, e = .returned (.slice a R.length c) ∧ w'.ownsRow W.heap.size 5 1 (.slice a R.length c) R.length (R.map (Value.int .u8)) ∧ B ≤ W.heap.size ∧ Below B w w' ∧
    ∀ b v n L, W.ownsRow b 5 1 v n L → w'.ownsRow b 5 1 v n L ∧ ∀ q, v.ownBlock = some q → q < W.heap.size

theorem made_of {B : Nat} {w W : World} {R : List Int} {P : Program} {f : FuncId} {args : Array Value} (hb : Below B w W) (hB : B ≤ W.heap.size)
    (h : Calls P f args W fun e w' => ∃ a c, e = .returned (.slice a R.length c) ∧ w'.ownsRow W.heap.size 5 1 (.slice a R.length c) R.length (R.map (Value.int .u8)) ∧ Below W.heap.size W w') :
    Calls P f args W (Made B w W R) :=
  h.mono fun e w' ⟨a, c, he, ho, hb'⟩ => ⟨a, c, he, ho, hB, hb.trans (hb'.mono hB), fun b v n L hv => ⟨own_below hv hb' (Nat.le_refl _), fun q hq => (hv.lt q hq).2⟩⟩

theorem sh_range (n : Int) : ∀ x ∈ shortF 7 n, 0 ≤ x ∧ x ≤ 255 := shortF_range 7 n

theorem grow_apart {w : World} {B b n : Nat} {u v : Value} {e : TypeId} {L : List Value} (h : w.ownsRow b e 1 u n L) (ha : ∀ q, v.ownBlock = some q → q < b) : ∀ g, u.ownBlock = some g → some g ≠ v.ownBlock := fun g e1 e2 => by
  have := (h.lt g e1).1
  have := ha g e2.symm
  omega

set_option maxRecDepth 100000 in
set_option maxHeartbeats 8000000 in
theorem l5Pack_any (g : Nat) (x : HS) (h : Hd) (T : TypeId) (w : World) (sb : SBlk w g (hvals x h).toList T) (o : HOk w x h) (nn : HNil w x) (gd : HGood h) :
    Calls Tryz.prog 82 #[.pointer (some ⟨g, 0, none⟩)] w fun e w' => ∃ a c, e = .returned (.slice a (packL h).length c) ∧
      w'.ownsRow w.heap.size 5 1 (.slice a (packL h).length c) (packL h).length ((packL h).map (Value.int .u8)) ∧ Below w.heap.size w w' := by
  obtain ⟨i0, hi, hz0, hz1, hz2⟩ := info_parts info5
  have HC := hide (fun (W : World) (hb : Below w.heap.size w W) => hcells (sb.below hb sb.lt))
  obtain ⟨B, hB⟩ : ∃ B, B = w.heap.size := ⟨_, rfl⟩
  have KB : Below B w w := Below.refl _ _
  have FZ : ∀ {W : World}, Below B w W → B ≤ W.heap.size := fun hb => by rw [hB]; exact hb.size
  have Cp : Hid (∀ W, Below B w W → Calls Tryz.prog 105 #[.slice x.p.a x.p.n x.p.c] W (Made B w W (pcL h.p))) := fun W hb => made_of hb (FZ hb) (l3Piece_any x.p.a x.p.n x.p.c h.p W (o.p.below hb (by omega)) nn.p (by have := o.p.1; have := gd.p; omega))
  have Ct : Hid (∀ W, Below B w W → Calls Tryz.prog 105 #[.slice x.t.a x.t.n x.t.c] W (Made B w W (pcL h.t))) := fun W hb => made_of hb (FZ hb) (l3Piece_any x.t.a x.t.n x.t.c h.t W (o.t.below hb (by omega)) nn.t (by have := o.t.1; have := gd.t; omega))
  have Cr : Hid (∀ W, Below B w W → Calls Tryz.prog 105 #[.slice x.r.a x.r.n x.r.c] W (Made B w W (pcL h.r))) := fun W hb => made_of hb (FZ hb) (l3Piece_any x.r.a x.r.n x.r.c h.r W (o.r.below hb (by omega)) nn.r (by have := o.r.1; have := gd.r; omega))
  have Cg : Hid (∀ W, Below B w W → Calls Tryz.prog 105 #[.slice x.g.a x.g.n x.g.c] W (Made B w W (pcL h.g))) := fun W hb => made_of hb (FZ hb) (l3Piece_any x.g.a x.g.n x.g.c h.g W (o.g.below hb (by omega)) nn.g (by have := o.g.1; have := gd.g; omega))
  have Ce : Hid (∀ W, Below B w W → Calls Tryz.prog 105 #[.slice x.e.a x.e.n x.e.c] W (Made B w W (pcL h.e))) := fun W hb => made_of hb (FZ hb) (l3Piece_any x.e.a x.e.n x.e.c h.e W (o.e.below hb (by omega)) nn.e (by have := o.e.1; have := gd.e; omega))
  have Cn1 : Hid (∀ W, Below B w W → Calls Tryz.prog 106 #[.int .i64 h.n1] W (Made B w W (shortF 7 h.n1))) := fun W hb => made_of hb (FZ hb) (l1Short_any 7 h.n1 W gd.n1.1 (by have := gd.n1.2; omega) (by have := gd.n1.2; omega) (by omega))
  have Qn1 : Hid (∀ W, Below B w W → ∀ b a c, W.ownsRow b 5 1 (.slice a (shortF 7 h.n1).length c) (shortF 7 h.n1).length ((shortF 7 h.n1).map (Value.int .u8)) → Calls Tryz.prog 105 #[.slice a (shortF 7 h.n1).length c] W (Made B w W (pcL (shortF 7 h.n1)))) := fun W hb b a c hw => made_of hb (FZ hb) (l3Piece_any a _ c _ W (BRow.own2 hw (sh_range _)) (own_cap hw) (by have := sh_length h.n1; omega))
  have Cn2 : Hid (∀ W, Below B w W → Calls Tryz.prog 106 #[.int .i64 h.n2] W (Made B w W (shortF 7 h.n2))) := fun W hb => made_of hb (FZ hb) (l1Short_any 7 h.n2 W gd.n2.1 (by have := gd.n2.2; omega) (by have := gd.n2.2; omega) (by omega))
  have Qn2 : Hid (∀ W, Below B w W → ∀ b a c, W.ownsRow b 5 1 (.slice a (shortF 7 h.n2).length c) (shortF 7 h.n2).length ((shortF 7 h.n2).map (Value.int .u8)) → Calls Tryz.prog 105 #[.slice a (shortF 7 h.n2).length c] W (Made B w W (pcL (shortF 7 h.n2)))) := fun W hb b a c hw => made_of hb (FZ hb) (l3Piece_any a _ c _ W (BRow.own2 hw (sh_range _)) (own_cap hw) (by have := sh_length h.n2; omega))
  have Cn3 : Hid (∀ W, Below B w W → Calls Tryz.prog 106 #[.int .i64 h.n3] W (Made B w W (shortF 7 h.n3))) := fun W hb => made_of hb (FZ hb) (l1Short_any 7 h.n3 W gd.n3.1 (by have := gd.n3.2; omega) (by have := gd.n3.2; omega) (by omega))
  have Qn3 : Hid (∀ W, Below B w W → ∀ b a c, W.ownsRow b 5 1 (.slice a (shortF 7 h.n3).length c) (shortF 7 h.n3).length ((shortF 7 h.n3).map (Value.int .u8)) → Calls Tryz.prog 105 #[.slice a (shortF 7 h.n3).length c] W (Made B w W (pcL (shortF 7 h.n3)))) := fun W hb b a c hw => made_of hb (FZ hb) (l3Piece_any a _ c _ W (BRow.own2 hw (sh_range _)) (own_cap hw) (by have := sh_length h.n3; omega))
  have Cn5 : Hid (∀ W, Below B w W → Calls Tryz.prog 106 #[.int .i64 h.n5] W (Made B w W (shortF 7 h.n5))) := fun W hb => made_of hb (FZ hb) (l1Short_any 7 h.n5 W gd.n5.1 (by have := gd.n5.2; omega) (by have := gd.n5.2; omega) (by omega))
  have Qn5 : Hid (∀ W, Below B w W → ∀ b a c, W.ownsRow b 5 1 (.slice a (shortF 7 h.n5).length c) (shortF 7 h.n5).length ((shortF 7 h.n5).map (Value.int .u8)) → Calls Tryz.prog 105 #[.slice a (shortF 7 h.n5).length c] W (Made B w W (pcL (shortF 7 h.n5)))) := fun W hb b a c hw => made_of hb (FZ hb) (l3Piece_any a _ c _ W (BRow.own2 hw (sh_range _)) (own_cap hw) (by have := sh_length h.n5; omega))
  have Cs : Hid (∀ W, Below B w W → Calls Tryz.prog 107 #[.slice x.s.a x.s.n x.s.c] W (Made B w W (listL h.s))) := fun W hb => made_of hb (FZ hb) (l5List_any x.s.a x.s.n x.s.c h.s W (o.s.below hb (by omega)) (nn.s.below hb (by omega)) (by have := o.s.1; have := gd.s; omega) gd.sz)
  have Ck : Hid (∀ W, Below B w W → Calls Tryz.prog 107 #[.slice x.k.a x.k.n x.k.c] W (Made B w W (listL h.k))) := fun W hb => made_of hb (FZ hb) (l5List_any x.k.a x.k.n x.k.c h.k W (o.k.below hb (by omega)) (nn.k.below hb (by omega)) (by have := o.k.1; have := gd.k; omega) gd.kz)
  obtain ⟨l1, l2, l3, l4, l5, l6⟩ := bd_length gd
  have zP0 : 0 < (pcL h.p).length := pcL_pos _
  have zP1 : 0 < (pcL (shortF 7 h.n1)).length := pcL_pos _
  have zP2 : 0 < (pcL (shortF 7 h.n2)).length := pcL_pos _
  have zP3 : 0 < (pcL (shortF 7 h.n3)).length := pcL_pos _
  have zP4 : 0 < (pcL h.t).length := pcL_pos _
  have zP5 : 0 < (pcL (shortF 7 h.n5)).length := pcL_pos _
  have zP6 : 0 < (listL h.s).length := wrapL_pos _
  have zP7 : 0 < (pcL h.r).length := pcL_pos _
  have zP8 : 0 < (pcL h.g).length := pcL_pos _
  have zP9 : 0 < (pcL h.e).length := pcL_pos _
  have zP10 : 0 < (listL h.k).length := wrapL_pos _
  have E1 : bd1 h = pcL h.p ++ pcL (shortF 7 h.n1) := rfl
  have E2 : bd2 h = bd1 h ++ pcL (shortF 7 h.n2) ++ pcL (shortF 7 h.n3) := rfl
  have E3 : bd3 h = bd2 h ++ pcL h.t ++ pcL (shortF 7 h.n5) := rfl
  have E4 : bd4 h = bd3 h ++ listL h.s ++ pcL h.r := rfl
  have E5 : bd5 h = bd4 h ++ pcL h.g ++ pcL h.e := rfl
  have E6 : bd6 h = bd5 h ++ listL h.k := rfl
  have EP : Hid (packL h = wrapL (bd6 h)) := rfl
  have R6 : Hid (∀ x ∈ bd6 h, 0 ≤ x ∧ x ≤ 255) := by
    intro y hy
    unfold bd6 bd5 bd4 bd3 bd2 bd1 at hy
    simp only [List.mem_append] at hy
    have hp := pcL_range h.p (by have := gd.p; omega) o.p.2.1 y
    have h1 := pcL_range (shortF 7 h.n1) (by have := sh_length h.n1; omega) (sh_range _) y
    have h2 := pcL_range (shortF 7 h.n2) (by have := sh_length h.n2; omega) (sh_range _) y
    have h3 := pcL_range (shortF 7 h.n3) (by have := sh_length h.n3; omega) (sh_range _) y
    have ht := pcL_range h.t (by have := gd.t; omega) o.t.2.1 y
    have h5 := pcL_range (shortF 7 h.n5) (by have := sh_length h.n5; omega) (sh_range _) y
    have hs := wrapL_range (pcsL h.s) (by have := pcsL_length h.s gd.sz; have := gd.s; omega) (pcsL_range h.s gd.sz o.s.bytes) y
    have hr := pcL_range h.r (by have := gd.r; omega) o.r.2.1 y
    have hg := pcL_range h.g (by have := gd.g; omega) o.g.2.1 y
    have he := pcL_range h.e (by have := gd.e; omega) o.e.2.1 y
    have hk := wrapL_range (pcsL h.k) (by have := pcsL_length h.k gd.kz; have := gd.k; omega) (pcsL_range h.k gd.kz o.k.bytes) y
    rcases hy with ((((((((((hy | hy) | hy) | hy) | hy) | hy) | hy) | hy) | hy) | hy) | hy)
    · exact hp hy
    · exact h1 hy
    · exact h2 hy
    · exact h3 hy
    · exact ht hy
    · exact h5 hy
    · exact hs hy
    · exact hr hy
    · exact hg hy
    · exact he hy
    · exact hk hy
  have R10 : Hid (∀ y ∈ listL h.k, 0 ≤ y ∧ y ≤ 255) := wrapL_range (pcsL h.k) (by have := pcsL_length h.k gd.kz; have := gd.k; omega) (pcsL_range h.k gd.kz o.k.bytes)
  generalize pcL h.p = P0 at *
  generalize pcL (shortF 7 h.n1) = P1 at *
  generalize pcL (shortF 7 h.n2) = P2 at *
  generalize pcL (shortF 7 h.n3) = P3 at *
  generalize pcL h.t = P4 at *
  generalize pcL (shortF 7 h.n5) = P5 at *
  generalize listL h.s = P6 at *
  generalize pcL h.r = P7 at *
  generalize pcL h.g = P8 at *
  generalize pcL h.e = P9 at *
  generalize listL h.k = P10 at *
  generalize bd1 h = b1 at *
  generalize bd2 h = b2 at *
  generalize bd3 h = b3 at *
  generalize bd4 h = b4 at *
  generalize bd5 h = b5 at *
  generalize bd6 h = b6 at *
  have N1 : b1.length = P0.length + P1.length := by rw [E1]; simp only [List.length_append]
  have HE1 := hide E1
  have HN1 := hide N1
  have N2 : b2.length = b1.length + P2.length + P3.length := by rw [E2]; simp only [List.length_append]
  have HE2 := hide E2
  have HN2 := hide N2
  have N3 : b3.length = b2.length + P4.length + P5.length := by rw [E3]; simp only [List.length_append]
  have HE3 := hide E3
  have HN3 := hide N3
  have N4 : b4.length = b3.length + P6.length + P7.length := by rw [E4]; simp only [List.length_append]
  have HE4 := hide E4
  have HN4 := hide N4
  have N5 : b5.length = b4.length + P8.length + P9.length := by rw [E5]; simp only [List.length_append]
  have HE5 := hide E5
  have HN5 := hide N5
  have N6 : b6.length = b5.length + P10.length := by rw [E6]; simp only [List.length_append]
  have HE6 := hide E6
  have HN6 := hide N6
  have HFZ := hide (fun (W : World) (hb : Below B w W) => FZ hb)
  clear E1 E2 E3 E4 E5 E6 o nn gd sb FZ
  rw [← hB]
  have HBB := hide hB
  have HC : Hid (∀ W, Below B w W → W.cell? ⟨g, 0, none⟩ = some (.slice x.p.a x.p.n x.p.c) ∧ W.cell? ⟨g, 1, none⟩ = some (.int .i64 h.n1) ∧ W.cell? ⟨g, 2, none⟩ = some (.int .i64 h.n2) ∧ W.cell? ⟨g, 3, none⟩ = some (.int .i64 h.n3) ∧ W.cell? ⟨g, 4, none⟩ = some (.slice x.t.a x.t.n x.t.c) ∧ W.cell? ⟨g, 5, none⟩ = some (.int .i64 h.n5) ∧ W.cell? ⟨g, 6, none⟩ = some (.slice x.s.a x.s.n x.s.c) ∧ W.cell? ⟨g, 7, none⟩ = some (.slice x.r.a x.r.n x.r.c) ∧ W.cell? ⟨g, 8, none⟩ = some (.slice x.g.a x.g.n x.g.c) ∧ W.cell? ⟨g, 9, none⟩ = some (.slice x.e.a x.e.n x.e.c) ∧ W.cell? ⟨g, 10, none⟩ = some (.slice x.k.a x.k.n x.k.c)) := by rw [hB]; exact HC
  clear hB
  go_enter Tryz.func82, Tryz.ntmps82
  go_upto_region 1 with fail
  go_cut [3] (fun s wx => ∃ a c, s = .slice a b1.length c ∧ wx.ownsRow B 5 1 (.slice a b1.length c) b1.length (b1.map (Value.int .u8)) ∧ Below B w wx)
  case first =>
    have lm : b1.length ≤ 500 := by omega
    have HK : Hid (∀ W, Below B w W → W.cell? ⟨g, 0, none⟩ = some (.slice x.p.a x.p.n x.p.c) ∧ W.cell? ⟨g, 1, none⟩ = some (.int .i64 h.n1)) := fun W hb => ⟨((unhide HC) W hb).1, ((unhide HC) W hb).2.1⟩
    clear Ct Cr Cg Ce Cn2 Cn3 Cn5 Qn2 Qn3 Qn5 Cs Ck zP2 zP3 zP4 zP5 zP6 zP7 zP8 zP9 zP10 HE2 HE3 HE4 HE5 HE6 HN2 HN3 HN4 HN5 HN6 R6 R10 EP HBB l1 l2 l3 l4 l5 l6 N2 N3 N4 N5 N6 HC
    go_region_held3 (fun W => W.cell? ⟨g, 0, none⟩ = some (.slice x.p.a x.p.n x.p.c) ∧ W.cell? ⟨g, 1, none⟩ = some (.int .i64 h.n1))
      (first | exact (unhide HK) _ KB | exact (unhide HK) _ KB.drew | exact (unhide HK) _ (below_drewN KB _))
      (first
        | (go_at_call_of 105 (x.p.a); refine ((unhide Cp) _ (by first | exact KB.drew | exact below_drewN KB _)).mono ?_; rintro e W1 ⟨a_ob, c_ob, rfl, ob, zB, KB, RT⟩; have ob := ownsRow_base ob zB; clear RT)
        | (go_at_call_of 106 (h.n1); refine ((unhide Cn1) _ KB).mono ?_; rintro e W1 ⟨a_s1, c_s1, rfl, s1, zB, KB, RT⟩; obtain ⟨ob, ab_s1⟩ := RT _ _ _ _ ob; clear RT)
        | (go_at_call_of 105 a_s1; refine ((unhide Qn1) _ KB _ _ _ s1).mono ?_; rintro e W1 ⟨a_p1, c_p1, rfl, p1, zB, KB, RT⟩; obtain ⟨ob, ab_p1⟩ := RT _ _ _ _ ob; clear RT)
        | (refine step_app (by rfl) (.tmp 8) (.tmp 14) 60 (by rfl) B i0 Tryz.underlying60 hi hz0 hz1 hz2 (.slice a_ob P0.length c_ob) (P0.length) (P0) (by rfl) ob _ _ P1.length P1 (by rfl) p1 zP1 (by omega) ((unhide HFZ) _ KB) ?_; intro g_a c_a W2 ob2 gr; have KB : Below B w W2 := Below.grown KB gr ((unhide HFZ) _ KB) (fun q e => (ob.lt q e).1); have ob := ob2; clear ob2 gr p1)
      )
    all_goals
      have HO := hide ob
      have HKB := hide KB
      clear ob KB
      go_wp2_with fail
      go_meet
      exact ⟨_, _, by rw [unhide HN1], by rw [unhide HN1, unhide HE1]; exact unhide HO, unhide HKB⟩
  case rest =>
    obtain ⟨ab, cb, rfl, ob, KB⟩ := hcut
    go_upto_region 2 with fail
    go_cut [3] (fun s wx => ∃ a c, s = .slice a b2.length c ∧ wx.ownsRow B 5 1 (.slice a b2.length c) b2.length (b2.map (Value.int .u8)) ∧ Below B w wx)
    case first =>
      have lm : b2.length ≤ 500 := by omega
      have HK : Hid (∀ W, Below B w W → W.cell? ⟨g, 2, none⟩ = some (.int .i64 h.n2) ∧ W.cell? ⟨g, 3, none⟩ = some (.int .i64 h.n3)) := fun W hb => ⟨((unhide HC) W hb).2.2.1, ((unhide HC) W hb).2.2.2.1⟩
      clear Cp Ct Cr Cg Ce Cn1 Cn5 Qn1 Qn5 Cs Ck zP0 zP1 zP4 zP5 zP6 zP7 zP8 zP9 zP10 HE1 HE3 HE4 HE5 HE6 HN1 HN3 HN4 HN5 HN6 R6 R10 EP HBB l1 l2 l3 l4 l5 l6 N1 N3 N4 N5 N6 HC
      go_region_held3 (fun W => W.cell? ⟨g, 2, none⟩ = some (.int .i64 h.n2) ∧ W.cell? ⟨g, 3, none⟩ = some (.int .i64 h.n3))
        (first | exact (unhide HK) _ KB | exact (unhide HK) _ KB.drew | exact (unhide HK) _ (below_drewN KB _))
        (first
          | (go_at_call_of 106 (h.n2); refine ((unhide Cn2) _ (by first | exact KB.drew | exact below_drewN KB _)).mono ?_; rintro e W1 ⟨a_s1, c_s1, rfl, s1, zB, KB, RT⟩; obtain ⟨ob, ab_s1⟩ := RT _ _ _ _ (by first | exact own_below ob ((Below.refl _ _).drew) (Nat.le_refl _) | exact own_below ob (below_drewN (Below.refl _ _) _) (Nat.le_refl _)); clear RT)
          | (go_at_call_of 106 (h.n3); refine ((unhide Cn3) _ KB).mono ?_; rintro e W1 ⟨a_s2, c_s2, rfl, s2, zB, KB, RT⟩; obtain ⟨ob, ab_s2⟩ := RT _ _ _ _ ob; (try (have p1 := (RT _ _ _ _ p1).1)); clear RT)
          | (go_at_call_of 105 a_s1; refine ((unhide Qn2) _ KB _ _ _ s1).mono ?_; rintro e W1 ⟨a_p1, c_p1, rfl, p1, zB, KB, RT⟩; obtain ⟨ob, ab_p1⟩ := RT _ _ _ _ ob; clear RT)
          | (go_at_call_of 105 a_s2; refine ((unhide Qn3) _ KB _ _ _ s2).mono ?_; rintro e W1 ⟨a_p2, c_p2, rfl, p2, zB, KB, RT⟩; obtain ⟨ob, ab_p2⟩ := RT _ _ _ _ ob; (try (have p1 := (RT _ _ _ _ p1).1)); clear RT)
          | (refine step_app (by rfl) (.tmp 16) (.tmp 22) 60 (by rfl) B i0 Tryz.underlying60 hi hz0 hz1 hz2 (.slice ab b1.length cb) (b1.length) (b1) (by rfl) ob _ _ P2.length P2 (by rfl) p1 zP2 (by omega) ((unhide HFZ) _ KB) ?_; intro g_a c_a W2 ob2 gr; have KB : Below B w W2 := Below.grown KB gr ((unhide HFZ) _ KB) (fun q e => (ob.lt q e).1); (try (have s2 := own_grown s2 gr (grow_apart (B := B) s2 ab_s2))); (try (have p2 := own_grown p2 gr (grow_apart (B := B) p2 ab_p2))); have ob := ob2; clear ob2 gr p1)
          | (refine step_app (by rfl) (.tmp 23) (.tmp 29) 60 (by rfl) B i0 Tryz.underlying60 hi hz0 hz1 hz2 (.slice (some ⟨g_a, 0, none⟩) (b1.length + P2.length) c_a) (b1.length + P2.length) (b1 ++ P2) (by rfl) ob _ _ P3.length P3 (by rfl) p2 zP3 (by omega) ((unhide HFZ) _ KB) ?_; intro g_a c_a W2 ob2 gr; have KB : Below B w W2 := Below.grown KB gr ((unhide HFZ) _ KB) (fun q e => (ob.lt q e).1); have ob := ob2; clear ob2 gr p2)
        )
      all_goals
        have HO := hide ob
        have HKB := hide KB
        clear ob KB
        go_wp2_with fail
        go_meet
        exact ⟨_, _, by rw [unhide HN2], by rw [unhide HN2, unhide HE2]; exact unhide HO, unhide HKB⟩
    case rest =>
      obtain ⟨ab, cb, rfl, ob, KB⟩ := hcut
      go_upto_region 3 with fail
      go_cut [3] (fun s wx => ∃ a c, s = .slice a b3.length c ∧ wx.ownsRow B 5 1 (.slice a b3.length c) b3.length (b3.map (Value.int .u8)) ∧ Below B w wx)
      case first =>
        have lm : b3.length ≤ 500 := by omega
        have HK : Hid (∀ W, Below B w W → W.cell? ⟨g, 4, none⟩ = some (.slice x.t.a x.t.n x.t.c) ∧ W.cell? ⟨g, 5, none⟩ = some (.int .i64 h.n5)) := fun W hb => ⟨((unhide HC) W hb).2.2.2.2.1, ((unhide HC) W hb).2.2.2.2.2.1⟩
        clear Cp Cr Cg Ce Cn1 Cn2 Cn3 Qn1 Qn2 Qn3 Cs Ck zP0 zP1 zP2 zP3 zP6 zP7 zP8 zP9 zP10 HE1 HE2 HE4 HE5 HE6 HN1 HN2 HN4 HN5 HN6 R6 R10 EP HBB l1 l2 l3 l4 l5 l6 N1 N2 N4 N5 N6 HC
        go_region_held3 (fun W => W.cell? ⟨g, 4, none⟩ = some (.slice x.t.a x.t.n x.t.c) ∧ W.cell? ⟨g, 5, none⟩ = some (.int .i64 h.n5))
          (first | exact (unhide HK) _ KB | exact (unhide HK) _ KB.drew | exact (unhide HK) _ (below_drewN KB _))
          (first
            | (go_at_call_of 105 (x.t.a); refine ((unhide Ct) _ (by first | exact KB.drew | exact below_drewN KB _)).mono ?_; rintro e W1 ⟨a_p1, c_p1, rfl, p1, zB, KB, RT⟩; obtain ⟨ob, ab_p1⟩ := RT _ _ _ _ (by first | exact own_below ob ((Below.refl _ _).drew) (Nat.le_refl _) | exact own_below ob (below_drewN (Below.refl _ _) _) (Nat.le_refl _)); clear RT)
            | (go_at_call_of 106 (h.n5); refine ((unhide Cn5) _ KB).mono ?_; rintro e W1 ⟨a_s2, c_s2, rfl, s2, zB, KB, RT⟩; obtain ⟨ob, ab_s2⟩ := RT _ _ _ _ ob; (try (have p1 := (RT _ _ _ _ p1).1)); clear RT)
            | (go_at_call_of 105 a_s2; refine ((unhide Qn5) _ KB _ _ _ s2).mono ?_; rintro e W1 ⟨a_p2, c_p2, rfl, p2, zB, KB, RT⟩; obtain ⟨ob, ab_p2⟩ := RT _ _ _ _ ob; (try (have p1 := (RT _ _ _ _ p1).1)); clear RT)
            | (refine step_app (by rfl) (.tmp 31) (.tmp 36) 60 (by rfl) B i0 Tryz.underlying60 hi hz0 hz1 hz2 (.slice ab b2.length cb) (b2.length) (b2) (by rfl) ob _ _ P4.length P4 (by rfl) p1 zP4 (by omega) ((unhide HFZ) _ KB) ?_; intro g_a c_a W2 ob2 gr; have KB : Below B w W2 := Below.grown KB gr ((unhide HFZ) _ KB) (fun q e => (ob.lt q e).1); (try (have s2 := own_grown s2 gr (grow_apart (B := B) s2 ab_s2))); (try (have p2 := own_grown p2 gr (grow_apart (B := B) p2 ab_p2))); have ob := ob2; clear ob2 gr p1)
            | (refine step_app (by rfl) (.tmp 37) (.tmp 43) 60 (by rfl) B i0 Tryz.underlying60 hi hz0 hz1 hz2 (.slice (some ⟨g_a, 0, none⟩) (b2.length + P4.length) c_a) (b2.length + P4.length) (b2 ++ P4) (by rfl) ob _ _ P5.length P5 (by rfl) p2 zP5 (by omega) ((unhide HFZ) _ KB) ?_; intro g_a c_a W2 ob2 gr; have KB : Below B w W2 := Below.grown KB gr ((unhide HFZ) _ KB) (fun q e => (ob.lt q e).1); have ob := ob2; clear ob2 gr p2)
          )
        all_goals
          have HO := hide ob
          have HKB := hide KB
          clear ob KB
          go_wp2_with fail
          go_meet
          exact ⟨_, _, by rw [unhide HN3], by rw [unhide HN3, unhide HE3]; exact unhide HO, unhide HKB⟩
      case rest =>
        obtain ⟨ab, cb, rfl, ob, KB⟩ := hcut
        go_upto_region 4 with fail
        go_cut [3] (fun s wx => ∃ a c, s = .slice a b4.length c ∧ wx.ownsRow B 5 1 (.slice a b4.length c) b4.length (b4.map (Value.int .u8)) ∧ Below B w wx)
        case first =>
          have lm : b4.length ≤ 500 := by omega
          have HK : Hid (∀ W, Below B w W → W.cell? ⟨g, 6, none⟩ = some (.slice x.s.a x.s.n x.s.c) ∧ W.cell? ⟨g, 7, none⟩ = some (.slice x.r.a x.r.n x.r.c)) := fun W hb => ⟨((unhide HC) W hb).2.2.2.2.2.2.1, ((unhide HC) W hb).2.2.2.2.2.2.2.1⟩
          clear Cp Ct Cg Ce Cn1 Cn2 Cn3 Cn5 Qn1 Qn2 Qn3 Qn5 Ck zP0 zP1 zP2 zP3 zP4 zP5 zP8 zP9 zP10 HE1 HE2 HE3 HE5 HE6 HN1 HN2 HN3 HN5 HN6 R6 R10 EP HBB l1 l2 l3 l4 l5 l6 N1 N2 N3 N5 N6 HC
          go_region_held3 (fun W => W.cell? ⟨g, 6, none⟩ = some (.slice x.s.a x.s.n x.s.c) ∧ W.cell? ⟨g, 7, none⟩ = some (.slice x.r.a x.r.n x.r.c))
            (first | exact (unhide HK) _ KB | exact (unhide HK) _ KB.drew | exact (unhide HK) _ (below_drewN KB _))
            (first
              | (go_at_call_of 107 (x.s.a); refine ((unhide Cs) _ (by first | exact KB.drew | exact below_drewN KB _)).mono ?_; rintro e W1 ⟨a_p1, c_p1, rfl, p1, zB, KB, RT⟩; obtain ⟨ob, ab_p1⟩ := RT _ _ _ _ (by first | exact own_below ob ((Below.refl _ _).drew) (Nat.le_refl _) | exact own_below ob (below_drewN (Below.refl _ _) _) (Nat.le_refl _)); clear RT)
              | (go_at_call_of 105 (x.r.a); refine ((unhide Cr) _ KB).mono ?_; rintro e W1 ⟨a_p2, c_p2, rfl, p2, zB, KB, RT⟩; obtain ⟨ob, ab_p2⟩ := RT _ _ _ _ ob; (try (have p1 := (RT _ _ _ _ p1).1)); clear RT)
              | (refine step_app (by rfl) (.tmp 45) (.tmp 50) 60 (by rfl) B i0 Tryz.underlying60 hi hz0 hz1 hz2 (.slice ab b3.length cb) (b3.length) (b3) (by rfl) ob _ _ P6.length P6 (by rfl) p1 zP6 (by omega) ((unhide HFZ) _ KB) ?_; intro g_a c_a W2 ob2 gr; have KB : Below B w W2 := Below.grown KB gr ((unhide HFZ) _ KB) (fun q e => (ob.lt q e).1); (try (have p2 := own_grown p2 gr (grow_apart (B := B) p2 ab_p2))); have ob := ob2; clear ob2 gr p1)
              | (refine step_app (by rfl) (.tmp 51) (.tmp 56) 60 (by rfl) B i0 Tryz.underlying60 hi hz0 hz1 hz2 (.slice (some ⟨g_a, 0, none⟩) (b3.length + P6.length) c_a) (b3.length + P6.length) (b3 ++ P6) (by rfl) ob _ _ P7.length P7 (by rfl) p2 zP7 (by omega) ((unhide HFZ) _ KB) ?_; intro g_a c_a W2 ob2 gr; have KB : Below B w W2 := Below.grown KB gr ((unhide HFZ) _ KB) (fun q e => (ob.lt q e).1); have ob := ob2; clear ob2 gr p2)
            )
          all_goals
            have HO := hide ob
            have HKB := hide KB
            clear ob KB
            go_wp2_with fail
            go_meet
            exact ⟨_, _, by rw [unhide HN4], by rw [unhide HN4, unhide HE4]; exact unhide HO, unhide HKB⟩
        case rest =>
          obtain ⟨ab, cb, rfl, ob, KB⟩ := hcut
          go_upto_region 5 with fail
          go_cut [3] (fun s wx => ∃ a c, s = .slice a b5.length c ∧ wx.ownsRow B 5 1 (.slice a b5.length c) b5.length (b5.map (Value.int .u8)) ∧ Below B w wx)
          case first =>
            have lm : b5.length ≤ 500 := by omega
            have HK : Hid (∀ W, Below B w W → W.cell? ⟨g, 8, none⟩ = some (.slice x.g.a x.g.n x.g.c) ∧ W.cell? ⟨g, 9, none⟩ = some (.slice x.e.a x.e.n x.e.c)) := fun W hb => ⟨((unhide HC) W hb).2.2.2.2.2.2.2.2.1, ((unhide HC) W hb).2.2.2.2.2.2.2.2.2.1⟩
            clear Cp Ct Cr Cn1 Cn2 Cn3 Cn5 Qn1 Qn2 Qn3 Qn5 Cs Ck zP0 zP1 zP2 zP3 zP4 zP5 zP6 zP7 zP10 HE1 HE2 HE3 HE4 HE6 HN1 HN2 HN3 HN4 HN6 R6 R10 EP HBB l1 l2 l3 l4 l5 l6 N1 N2 N3 N4 N6 HC
            go_region_held3 (fun W => W.cell? ⟨g, 8, none⟩ = some (.slice x.g.a x.g.n x.g.c) ∧ W.cell? ⟨g, 9, none⟩ = some (.slice x.e.a x.e.n x.e.c))
              (first | exact (unhide HK) _ KB | exact (unhide HK) _ KB.drew | exact (unhide HK) _ (below_drewN KB _))
              (first
                | (go_at_call_of 105 (x.g.a); refine ((unhide Cg) _ (by first | exact KB.drew | exact below_drewN KB _)).mono ?_; rintro e W1 ⟨a_p1, c_p1, rfl, p1, zB, KB, RT⟩; obtain ⟨ob, ab_p1⟩ := RT _ _ _ _ (by first | exact own_below ob ((Below.refl _ _).drew) (Nat.le_refl _) | exact own_below ob (below_drewN (Below.refl _ _) _) (Nat.le_refl _)); clear RT)
                | (go_at_call_of 105 (x.e.a); refine ((unhide Ce) _ KB).mono ?_; rintro e W1 ⟨a_p2, c_p2, rfl, p2, zB, KB, RT⟩; obtain ⟨ob, ab_p2⟩ := RT _ _ _ _ ob; (try (have p1 := (RT _ _ _ _ p1).1)); clear RT)
                | (refine step_app (by rfl) (.tmp 58) (.tmp 63) 60 (by rfl) B i0 Tryz.underlying60 hi hz0 hz1 hz2 (.slice ab b4.length cb) (b4.length) (b4) (by rfl) ob _ _ P8.length P8 (by rfl) p1 zP8 (by omega) ((unhide HFZ) _ KB) ?_; intro g_a c_a W2 ob2 gr; have KB : Below B w W2 := Below.grown KB gr ((unhide HFZ) _ KB) (fun q e => (ob.lt q e).1); (try (have p2 := own_grown p2 gr (grow_apart (B := B) p2 ab_p2))); have ob := ob2; clear ob2 gr p1)
                | (refine step_app (by rfl) (.tmp 64) (.tmp 69) 60 (by rfl) B i0 Tryz.underlying60 hi hz0 hz1 hz2 (.slice (some ⟨g_a, 0, none⟩) (b4.length + P8.length) c_a) (b4.length + P8.length) (b4 ++ P8) (by rfl) ob _ _ P9.length P9 (by rfl) p2 zP9 (by omega) ((unhide HFZ) _ KB) ?_; intro g_a c_a W2 ob2 gr; have KB : Below B w W2 := Below.grown KB gr ((unhide HFZ) _ KB) (fun q e => (ob.lt q e).1); have ob := ob2; clear ob2 gr p2)
              )
            all_goals
              have HO := hide ob
              have HKB := hide KB
              clear ob KB
              go_wp2_with fail
              go_meet
              exact ⟨_, _, by rw [unhide HN5], by rw [unhide HN5, unhide HE5]; exact unhide HO, unhide HKB⟩
          case rest =>
            obtain ⟨ab, cb, rfl, ob, KB⟩ := hcut
            obtain ⟨_, _, _, _, _, _, _, _, _, _, x10⟩ := (unhide HC) _ KB
            have HW : Hid (∀ W a c, W.ownsRow B 5 1 (.slice a b6.length c) b6.length (b6.map (Value.int .u8)) → Calls Tryz.prog 108 #[.slice a b6.length c] W fun e w' => ∃ a' c', e = .returned (.slice a' (wrapL b6).length c') ∧ w'.ownsRow W.heap.size 5 1 (.slice a' (wrapL b6).length c') (wrapL b6).length ((wrapL b6).map (Value.int .u8)) ∧ Below W.heap.size W w') := fun W a c hw => l3Wrap_any a _ c b6 W (BRow.own2 hw (unhide R6)) (own_cap hw) (by omega)
            have HZB := hide ((unhide HFZ) _ KB)
            have HCK := hide ((unhide Ck) _ KB)
            have hl6 : b5.length + P10.length ≤ 460 := by omega
            clear Cp Ct Cs Cr Cg Ce Ck Cn1 Cn2 Cn3 Cn5 Qn1 Qn2 Qn3 Qn5 N1 N2 N3 N4 N5 N6 l1 l2 l3 l4 l5 HC
            go_wp2_with fail
            refine (unhide HCK).mono ?_
            rintro e W1 ⟨a1, c1, rfl, p1, zB, KB1, RT⟩
            obtain ⟨ob1, _⟩ := RT _ _ _ _ ob
            have hr1 := BRow.own2 p1 (unhide R10)
            have hz1b := (unhide HFZ) _ KB1
            go_wp2_with (at_builtin; refine wpList_append_brow _ rfl _ _ 60 rfl B i0 Tryz.underlying60 hi hz0 hz1 hz2 _ b5.length b5 rfl ob1 a1 P10.length c1 P10 rfl hr1 (own_cap p1) (by omega) hz1b ?_)
            intro a3 c3 w3 o3 g3
            have KB3 : Below B w w3 := KB1.grown g3 hz1b (fun q e => (ob1.lt q e).1)
            rw [← List.map_append, ← unhide HE6, ← unhide HN6] at o3
            have HC3 := hide ((unhide HW) w3 a3 c3 o3)
            have HKB3 := hide KB3
            have HZ3 := hide ((unhide HFZ) _ KB3)
            clear ob ob1 hr1 p1 RT o3 g3 KB KB1 KB3 x10
            rw [← unhide HN6]
            go_wp2_with fail
            refine (unhide HC3).mono ?_
            rintro e w4 ⟨a4, c4, rfl, o4, b4⟩
            have HO4 := hide (ownsRow_base o4 (unhide HZ3))
            have HB4 := hide ((unhide HKB3).trans (b4.mono (unhide HZ3)))
            clear o4 b4
            go_wp2_with fail
            go_ret
            rw [unhide EP]
            exact ⟨a4, c4, rfl, unhide HO4, unhide HB4⟩

end Go.Proofs.YtldiilmpmcbjkaaGreatDoor
