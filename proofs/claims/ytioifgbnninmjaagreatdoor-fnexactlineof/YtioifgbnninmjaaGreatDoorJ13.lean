/- What is proved here: what the program's PackHeader answers: the fault of a header, or its bytes in new memory. -/
import Derived.Test.YtioifgbnninmjaaGreatDoorJ11
import Derived.Test.YtioifgbnninmjaaGreatDoorJ12
import Derived.Test.YtioifgbnninmjaaGreatDoorJ7
import Derived.Test.YtioifgbnninmjaaGreatDoorJ1
import Derived.Test.YtioifgbnninmjaaGreatDoorChecked
import Derived.KernelRfl
import Derived.WalkKit
import Derived.WalkLawsBesides
import Derived.WalkSmall
import Derived.WalkSpells
import Derived.Laws.BitsAllLaws
import Derived.Test.YtioifgbnninmjaaGreatDoorJ2
import Derived.Laws.CopyOwn
import Derived.Deep.MidRow
import Derived.Deep.DrawnRows
namespace Go.Proofs.YtioifgbnninmjaaGreatDoor
open Go.RowKit
set_option linter.unusedVariables false
set_option maxRecDepth 100000

/-- What PackHeader answers. -/
def pkBytes (h : Hd) : List Int := if hdFlt h = 0 then packL h else []

set_option maxRecDepth 100000 in
set_option maxHeartbeats 8000000 in
theorem implPack_any (x : HS) (h : Hd) (w : World) (o : HOk w x h) (nn : HNil w x) (m : HSm h) :
    Calls Tryz.prog 108 #[.agg (hvals x h)] w fun e w' => ∃ a c, e = .returned (.agg #[.int .i64 (hdFlt h), .slice a (pkBytes h).length c]) ∧
      w'.ownsRow w.heap.size 5 1 (.slice a (pkBytes h).length c) (pkBytes h).length ((pkBytes h).map (Value.int .u8)) ∧ Below w.heap.size w w' := by
  have kb := SBlk.new w (hvals x h) 45
  have bb := below_alloc w (.cells (hvals x h) 45)
  have zb : (w.alloc (.cells (hvals x h) 45)).heap.size = w.heap.size + 1 := by simp
  obtain ⟨W0, eb⟩ : ∃ W0, w.alloc (.cells (hvals x h) 45) = W0 := ⟨_, rfl⟩
  rw [eb] at kb bb zb
  have k1 := (kb.next (.cells #[.int .i64 0, .slice none 0 0] 120))
  have kr := SBlk.new W0 #[.int .i64 0, .slice none 0 0] 120
  have b1 := bb.alloc bb.size (.cells #[.int .i64 0, .slice none 0 0] 120)
  have z1 : (W0.alloc (.cells #[.int .i64 0, .slice none 0 0] 120)).heap.size = w.heap.size + 2 := by simp; omega
  rw [zb] at kr
  obtain ⟨W1, e1⟩ : ∃ W1, W0.alloc (.cells #[.int .i64 0, .slice none 0 0] 120) = W1 := ⟨_, rfl⟩
  rw [e1] at k1 kr b1 z1
  have HCB := hide (fun (W' : World) (hb : Below W1.heap.size W1 W') => hcells (k1.below hb k1.lt))
  have HRB := hide (fun (W' : World) (hb : Below W1.heap.size W1 W') => kr.below hb kr.lt)
  have HON := hide (fun (W' : World) (hb : Below w.heap.size w W') => And.intro (o.below hb (Nat.le_refl _)) (nn.below hb (Nat.le_refl _)))
  have D1 := hide (implHeaderFault_any x h W1 (o.below b1 (Nat.le_refl _)) m)
  have HB1 := hide b1
  obtain ⟨x0, x1, x2, x3, x4, x5, x6, x7, x8, x9, x10⟩ := hcells k1
  have hz2 : w.heap.size + 1 < W1.heap.size := by omega
  clear o nn m kb bb k1 kr b1 zb
  have HD0 := hide (fun (W' : World) => blockOf_any x h W')
  have HIT : Hid (hdFlt h = 0 → ∀ (W' : World), Below w.heap.size w W' → Calls Tryz.prog 141 #[.agg (hvals x h)] W' fun e w' => ∃ a c, e = .returned (.slice a (hIts h).length c) ∧ ItRowN w' a (hIts h).length (hIts h) ∧ Below W'.heap.size W' w') := fun hf W' hb => items_any x h (good_of hf) W' ((unhide HON) W' hb).1 ((unhide HON) W' hb).2
  have HEN : Hid (hdFlt h = 0 → ∀ (W' : World) (a : Option Addr) (c : Nat), ItRowN W' a (hIts h).length (hIts h) → Calls Tryz.prog 140 #[.slice a (hIts h).length c] W' fun e w' => ∃ a' c', e = .returned (.agg #[.int .i64 0, .slice a' (packL h).length c']) ∧ w'.ownsRow W'.heap.size 5 1 (.slice a' (packL h).length c') (packL h).length ((packL h).map (Value.int .u8)) ∧ Below W'.heap.size W' w') := fun hf W' a c hr => by
    have gd := good_of hf
    obtain ⟨q1, q2⟩ := en_header gd
    have hl := hIts_len h
    have g1 := gd.s
    have g2 := gd.k
    have := implEnc_any a (hIts h).length c (hIts h) W' hr (by omega)
    rw [q1, q2] at this
    exact this
  have HPB : Hid (pkBytes h = if hdFlt h = 0 then packL h else []) := rfl
  clear HON
  generalize hdFlt h = q at D1 HIT HEN HPB ⊢
  generalize hIts h = IT at HIT HEN
  generalize IT.length = il at HIT HEN
  generalize packL h = PL at HEN HPB
  generalize pkBytes h = PB at HPB ⊢
  unfold hvals at eb D1 HD0 HIT ⊢
  have EB := hide eb
  have E1 := hide e1
  clear eb e1
  go_enter Tryz.func108, Tryz.ntmps108
  go_upto_region 1 with fail
  rw [unhide EB, unhide E1]
  clear EB E1
  go_wp2_with fail
  refine (unhide D1).mono ?_
  rintro e w2 ⟨rfl, b2⟩
  have kr2 := (unhide HRB) w2 b2
  have r0 := kr2.cell 0
  have r1 := kr2.cell 1
  have f0 := kr2.free 0
  have f1 := kr2.free 1
  simp only [List.getElem?_cons_zero, List.getElem?_cons_succ] at r0 r1
  have HB2 := hide ((unhide HB1).trans (b2.mono (unhide HB1).size))
  have K2 := hide b2
  clear b2 kr2 x0 x1 x2 x3 x4 x5 x6 x7 x8 x9 x10 D1
  by_cases hq : q = 0
  · subst hq
    have HPB2 : Hid (PB = PL) := by show _ = _; rw [unhide HPB, if_pos rfl]
    obtain ⟨y0, y1, y2, y3, y4, y5, y6, y7, y8, y9, y10⟩ := (unhide HCB) w2 (unhide K2)
    go_wp2_with fail
    refine ((unhide HD0) _).mono ?_
    rintro e w3 ⟨rfl, b3⟩
    have HB3 := hide ((unhide HB2).trans (b3.mono (unhide HB2).size))
    have K3 := hide ((unhide K2).trans (b3.mono (unhide K2).size))
    clear b3 y0 y1 y2 y3 y4 y5 y6 y7 y8 y9 y10
    go_wp2_with fail
    refine ((unhide HIT) (by first | exact rfl | trivial) _ (unhide HB3)).mono ?_
    rintro e w4 ⟨a4, c4, rfl, row4, b4⟩
    have HB4 := hide ((unhide HB3).trans (b4.mono (unhide HB3).size))
    have K4 := hide ((unhide K3).trans (b4.mono (unhide K3).size))
    clear b4
    go_wp2_with fail
    refine ((unhide HEN) (by first | exact rfl | trivial) _ a4 c4 row4).mono ?_
    rintro e w5 ⟨a5, c5, rfl, o5, b5⟩
    have HB5 := hide ((unhide HB4).trans (b5.mono (unhide HB4).size))
    have K5 := (unhide K4).trans (b5.mono (unhide K4).size)
    have kr5 := (unhide HRB) w5 K5
    have s0 := kr5.cell 0
    have s1 := kr5.cell 1
    have g0 := kr5.free 0
    have g1 := kr5.free 1
    simp only [List.getElem?_cons_zero, List.getElem?_cons_succ] at s0 s1
    have hz4 : w.heap.size + 1 < w4.heap.size := Nat.lt_of_lt_of_le hz2 (unhide K4).size
    have HO5 := hide o5
    have hwz : w.heap.size ≤ w4.heap.size := (unhide HB4).size
    clear K5 kr5 o5 b5 row4 r0 r1 f0 f1
    go_wp2_with fail
    refine bodyPost_ret (v := .agg #[.int .i64 0, .slice a5 PL.length c5]) (by simp [results, Tryz.results108, go_sem, s0, s1]) rfl ⟨a5, c5, by rw [unhide HPB2], ?_, ?_⟩
    · rw [unhide HPB2]
      exact ownsRow_base (ownsRow_setCell_below (ownsRow_setCell_below (unhide HO5) (by show w.heap.size + 1 < w4.heap.size; omega) _) (by show w.heap.size + 1 < w4.heap.size; omega) _) hwz
    · exact ((unhide HB5).setCell (p := ⟨w.heap.size + 1, _, none⟩) (by show w.heap.size ≤ w.heap.size + 1; omega) _).setCell (p := ⟨w.heap.size + 1, _, none⟩) (by show w.heap.size ≤ w.heap.size + 1; omega) _
  · have hne : (q != 0) = true := by simp [hq]
    have HPB2 : Hid (PB = []) := by show _ = _; rw [unhide HPB, if_neg hq]
    clear hq
    go_wp2_with fail
    refine bodyPost_ret (v := .agg #[.int .i64 q, .slice none 0 0]) (by simp [results, Tryz.results108, go_sem, r0, r1]) rfl ⟨none, 0, by rw [unhide HPB2]; rfl, ?_, ?_⟩
    · rw [unhide HPB2]; exact World.ownsRow_nil _ _ _ _
    · exact ((unhide HB2).setCell (p := ⟨w.heap.size + 1, _, none⟩) (by show w.heap.size ≤ w.heap.size + 1; omega) _).setCell (p := ⟨w.heap.size + 1, _, none⟩) (by show w.heap.size ≤ w.heap.size + 1; omega) _

end Go.Proofs.YtioifgbnninmjaaGreatDoor

/- What is proved here: plain facts on a header's copy and on its bytes, for the law on PackHeader. -/
namespace Go.Proofs.YtioifgbnninmjaaGreatDoor
open Go.RowKit
set_option linter.unusedVariables false
set_option maxRecDepth 100000

theorem HOwn.nilOk {w : World} {B : Nat} {x : HS} {h : Hd} (o : HOwn w B x h) : HNil w x := by
  obtain ⟨g1, g2, g3, g4, g5, g6, g7, rfl, _, o1, o2, o3, o4, o5, o6, o7⟩ := o
  exact ⟨fun e => (by cases e), fun e => (by cases e), OBss.nilOk o3, fun e => (by cases e), fun e => (by cases e), fun e => (by cases e), OBss.nilOk o7⟩

theorem pk_range {w : World} {x : HS} {h : Hd} (o : HOk w x h) : ∀ y ∈ pkBytes h, 0 ≤ y ∧ y ≤ 255 := by
  unfold pkBytes
  split
  · rename_i hf
    have gd := good_of hf
    refine wrapL_range (bd6 h) (by have := (bd_length gd).2.2.2.2.2; omega) ?_
    intro y hy
    unfold bd6 bd5 bd4 bd3 bd2 bd1 at hy
    simp only [List.mem_append] at hy
    have hp := pcL_range h.p (by have := gd.p; omega) o.p.2.1 y
    have h1 := pcL_range (shortF 7 h.n1) (by have := sh_length h.n1; omega) (shortF_range 7 _) y
    have h2 := pcL_range (shortF 7 h.n2) (by have := sh_length h.n2; omega) (shortF_range 7 _) y
    have h3 := pcL_range (shortF 7 h.n3) (by have := sh_length h.n3; omega) (shortF_range 7 _) y
    have ht := pcL_range h.t (by have := gd.t; omega) o.t.2.1 y
    have h5 := pcL_range (shortF 7 h.n5) (by have := sh_length h.n5; omega) (shortF_range 7 _) y
    have hs := wrapL_range (pcsL h.s) (by have := pcsL_length h.s gd.sz; have := gd.s; omega) (pcsL_range h.s gd.sz o.s.bytes) y
    have hr := pcL_range h.r (by have := gd.r; omega) o.r.2.1 y
    have hg := pcL_range h.g (by have := gd.g; omega) o.g.2.1 y
    have he := pcL_range h.e (by have := gd.e; omega) o.e.2.1 y
    have hk := wrapL_range (pcsL h.k) (by have := pcsL_length h.k gd.kz; have := gd.k; omega) (pcsL_range h.k gd.kz o.k.bytes) y
    rcases hy with ((((((((((hy | hy) | hy) | hy) | hy) | hy) | hy) | hy) | hy) | hy) | hy)
    · exact hp hy
    · exact h1 hy
    · exact h2 hy
    · exact h3 hy
    · exact ht hy
    · exact h5 hy
    · exact hs hy
    · exact hr hy
    · exact hg hy
    · exact he hy
    · exact hk hy
  · intro y hy; simp at hy

theorem pk_length (h : Hd) : (pkBytes h).length ≤ 1200 := by
  unfold pkBytes
  split
  · rename_i hf
    have h1 := wrapL_length (bd6 h)
    have h2 := (bd_length (good_of hf)).2.2.2.2.2
    unfold packL
    omega
  · simp

end Go.Proofs.YtioifgbnninmjaaGreatDoor

/- What is proved here: plain facts on bytes that are padded to a multiple of 136; no program is named. -/
namespace Go.Proofs.YtioifgbnninmjaaGreatDoor
set_option linter.unusedVariables false
set_option maxRecDepth 100000

/-- How many bytes there are behind the padding. -/
def padLen (n : Nat) : Nat := 136 * (n / 136 + 1)

theorem padLen_lt (n : Nat) : n < padLen n ∧ padLen n ≤ n + 136 ∧ padLen n % 136 = 0 := by unfold padLen; omega

theorem padLen_first (n m : Nat) (h1 : n < m) (h2 : m ≤ padLen n) (h3 : m % 136 = 0) : m = padLen n := by unfold padLen at h2 ⊢; omega

/-- The last byte of the padding. -/
def padLast (n : Nat) : Int := if n + 1 = padLen n then 129 else 128

/-- The bytes, a byte 1, and k zeros. -/
def padRaw (zs : List Int) (k : Nat) : List Int := zs ++ 1 :: List.replicate k 0

/-- Padded bytes. -/
def padB (zs : List Int) : List Int := (padRaw zs (padLen zs.length - zs.length - 1)).set (padLen zs.length - 1) (padLast zs.length)

theorem padRaw_length (zs : List Int) (k : Nat) : (padRaw zs k).length = zs.length + 1 + k := by simp [padRaw]; omega

theorem padRaw_succ (zs : List Int) (k : Nat) : padRaw zs (k + 1) = padRaw zs k ++ [0] := by
  unfold padRaw
  rw [List.replicate_succ', List.append_assoc]
  rfl

theorem padB_length (zs : List Int) : (padB zs).length = padLen zs.length := by
  have := padLen_lt zs.length
  unfold padB
  rw [List.length_set, padRaw_length]
  omega

theorem padRaw_range (zs : List Int) (k : Nat) (h : ∀ x ∈ zs, 0 ≤ x ∧ x ≤ 255) : ∀ x ∈ padRaw zs k, 0 ≤ x ∧ x ≤ 255 := by
  intro x hx
  unfold padRaw at hx
  rcases List.mem_append.1 hx with hx | hx
  · exact h x hx
  · rcases List.mem_cons.1 hx with rfl | hx
    · omega
    · rw [List.eq_of_mem_replicate hx]; omega

theorem padB_range (zs : List Int) (h : ∀ x ∈ zs, 0 ≤ x ∧ x ≤ 255) : ∀ x ∈ padB zs, 0 ≤ x ∧ x ≤ 255 := by
  intro x hx
  rcases List.mem_or_eq_of_mem_set hx with h' | h'
  · exact padRaw_range zs _ h x h'
  · subst h'; unfold padLast; split <;> omega

/-- What stands last ahead of the xor. -/
theorem padRaw_last (zs : List Int) : (padRaw zs (padLen zs.length - zs.length - 1)).getD (padLen zs.length - 1) 0 = if zs.length + 1 = padLen zs.length then 1 else 0 := by
  have hp := padLen_lt zs.length
  have hl := padRaw_length zs (padLen zs.length - zs.length - 1)
  rw [getD_at _ _ (by omega)]
  unfold padRaw
  rw [List.getElem_append_right (by omega)]
  split
  · rename_i he
    have e : padLen zs.length - 1 - zs.length = 0 := by omega
    simp [e]
  · rename_i he
    obtain ⟨q, hq⟩ : ∃ q, padLen zs.length - 1 - zs.length = q + 1 := ⟨padLen zs.length - 2 - zs.length, by omega⟩
    simp [hq]

end Go.Proofs.YtioifgbnninmjaaGreatDoor

/- What is proved here: plain facts on bytes soaked into a state of lanes, and what KeccakOf answers; no program is named. -/
namespace Go.Proofs.YtioifgbnninmjaaGreatDoor
open Go.RowKit
set_option linter.unusedVariables false
set_option maxRecDepth 100000

/-- The k lowest bytes of a lane. -/
def lowB (b : Nat → Nat) : Nat → Nat
  | 0 => 0
  | k + 1 => lowB b k + b k * 2 ^ (8 * k)

theorem lowB_lt (b : Nat → Nat) (hb : ∀ i, b i < 256) : ∀ k, lowB b k < 2 ^ (8 * k)
  | 0 => by simp [lowB]
  | k + 1 => by
    have i := lowB_lt b hb k
    have h := hb k
    unfold lowB
    have e : 2 ^ (8 * (k + 1)) = 256 * 2 ^ (8 * k) := by rw [show 8 * (k + 1) = 8 * k + 8 by omega, Nat.pow_add, Nat.mul_comm]
    rw [e]
    have m : (b k + 1) * 2 ^ (8 * k) ≤ 256 * 2 ^ (8 * k) := Nat.mul_le_mul_right _ (by omega)
    rw [Nat.add_mul] at m
    omega

/-- Byte i behind a place. -/
def byteN (bs : List Int) (p i : Nat) : Nat := (bs.getD (p + i) 0).toNat

/-- The lane that begins at a place of bytes. -/
def laneB (bs : List Int) (p : Nat) : Nat := lowB (byteN bs p) 8

theorem byteN_lt {bs : List Int} (h : ∀ x ∈ bs, 0 ≤ x ∧ x ≤ 255) (p i : Nat) : byteN bs p i < 256 := by
  unfold byteN
  rw [List.getD_eq_getElem?_getD]
  cases e : bs[p + i]? with
  | none => simp
  | some x => have := h x (List.mem_of_getElem? e); simp; omega

theorem byteN_cast {bs : List Int} (h : ∀ x ∈ bs, 0 ≤ x ∧ x ≤ 255) (p i : Nat) : ((byteN bs p i : Nat) : Int) = bs.getD (p + i) 0 := by
  unfold byteN
  rw [List.getD_eq_getElem?_getD]
  cases e : bs[p + i]? with
  | none => simp
  | some x => have := h x (List.mem_of_getElem? e); simp; omega

theorem laneB_lt {bs : List Int} (h : ∀ x ∈ bs, 0 ≤ x ∧ x ≤ 255) (p : Nat) : laneB bs p < 18446744073709551616 := lowB_lt _ (byteN_lt h p) 8

theorem laneB_words {bs : List Int} (h : ∀ x ∈ bs, 0 ≤ x ∧ x ≤ 255) (p : Nat) :
    (hiW (laneB bs p) : Int) = bs.getD (p + 4) 0 + bs.getD (p + 5) 0 * 256 + bs.getD (p + 6) 0 * 65536 + bs.getD (p + 7) 0 * 16777216 ∧
    (loW (laneB bs p) : Int) = bs.getD (p + 0) 0 + bs.getD (p + 1) 0 * 256 + bs.getD (p + 2) 0 * 65536 + bs.getD (p + 3) 0 * 16777216 := by
  have c0 := byteN_cast h p 0
  have c1 := byteN_cast h p 1
  have c2 := byteN_cast h p 2
  have c3 := byteN_cast h p 3
  have c4 := byteN_cast h p 4
  have c5 := byteN_cast h p 5
  have c6 := byteN_cast h p 6
  have c7 := byteN_cast h p 7
  have l0 := byteN_lt h p 0
  have l1 := byteN_lt h p 1
  have l2 := byteN_lt h p 2
  have l3 := byteN_lt h p 3
  have l4 := byteN_lt h p 4
  have l5 := byteN_lt h p 5
  have l6 := byteN_lt h p 6
  have l7 := byteN_lt h p 7
  rw [← c0, ← c1, ← c2, ← c3, ← c4, ← c5, ← c6, ← c7]
  unfold hiW loW laneB
  simp only [lowB]
  generalize byteN bs p 0 = x0 at *
  generalize byteN bs p 1 = x1 at *
  generalize byteN bs p 2 = x2 at *
  generalize byteN bs p 3 = x3 at *
  generalize byteN bs p 4 = x4 at *
  generalize byteN bs p 5 = x5 at *
  generalize byteN bs p 6 = x6 at *
  generalize byteN bs p 7 = x7 at *
  clear c0 c1 c2 c3 c4 c5 c6 c7
  omega

/-- A block soaked into a state, lane by lane. -/
def soakAt (Z : List Nat) (bs : List Int) (p : Nat) : Nat → List Nat
  | 0 => Z
  | i + 1 => (soakAt Z bs p i).set i ((soakAt Z bs p i).getD i 0 ^^^ laneB bs (p + i * 8))

theorem soakAt_length (Z : List Nat) (bs : List Int) (p : Nat) : ∀ i, (soakAt Z bs p i).length = Z.length
  | 0 => rfl
  | i + 1 => by unfold soakAt; rw [List.length_set, soakAt_length Z bs p i]

theorem soakAt_lanes {Z : List Nat} {bs : List Int} (hZ : Lanes Z) (h : ∀ x ∈ bs, 0 ≤ x ∧ x ≤ 255) (p : Nat) : ∀ i, Lanes (soakAt Z bs p i)
  | 0 => hZ
  | i + 1 => by
    have ih := soakAt_lanes hZ h p i
    refine ⟨by rw [soakAt_length]; exact hZ.1, fun z hz => ?_⟩
    unfold soakAt at hz
    rcases List.mem_or_eq_of_mem_set hz with e | e
    · exact ih.2 z e
    · rw [e]
      have := getD_lt ih.2 (by decide) i
      exact Nat.xor_lt_two_pow (n := 64) this (laneB_lt h _)

/-- The state behind n blocks. -/
def spAt (bs : List Int) : Nat → List Nat
  | 0 => List.replicate 25 0
  | n + 1 => mixAt (soakAt (spAt bs n) bs (136 * n) 17) 24

theorem spAt_lanes {bs : List Int} (h : ∀ x ∈ bs, 0 ≤ x ∧ x ≤ 255) : ∀ n, Lanes (spAt bs n)
  | 0 => ⟨by simp [spAt], fun z hz => by rw [spAt] at hz; rw [List.eq_of_mem_replicate hz]; decide⟩
  | n + 1 => mixAt_lanes (soakAt_lanes (spAt_lanes h n) h _ 17) 24

/-- A block taken out of the bytes. -/
theorem laneB_block (bs : List Int) (p q : Nat) (hq : q + 8 ≤ 136) : laneB ((bs.drop p).take 136) q = laneB bs (p + q) := by
  have e : ∀ k, k ≤ 8 → lowB (byteN ((bs.drop p).take 136) q) k = lowB (byteN bs (p + q)) k := by
    intro k
    induction k with
    | zero => intro _; rfl
    | succ k ih =>
      intro hk
      unfold lowB
      rw [ih (by omega)]
      have : byteN ((bs.drop p).take 136) q k = byteN bs (p + q) k := by
        unfold byteN
        rw [List.getD_eq_getElem?_getD, List.getD_eq_getElem?_getD, List.getElem?_take_of_lt (by omega), List.getElem?_drop, Nat.add_assoc]
      rw [this]
  exact e 8 (Nat.le_refl _)

theorem soakAt_block (Z : List Nat) (bs : List Int) (p : Nat) : ∀ i, i ≤ 17 → soakAt Z ((bs.drop p).take 136) 0 i = soakAt Z bs p i
  | 0, _ => rfl
  | i + 1, h => by
    unfold soakAt
    rw [soakAt_block Z bs p i (by omega), Nat.zero_add, laneB_block bs p (i * 8) (by omega)]

/-- The 32 bytes of a state. -/
def hashOf (Z : List Nat) : List Int := (List.range 32).map fun i => ((Z.getD (i / 8) 0 / 2 ^ (8 * (i % 8)) % 256 : Nat) : Int)

theorem hashOf_length (Z : List Nat) : (hashOf Z).length = 32 := by simp [hashOf]

/-- What KeccakOf answers. -/
def kcCode (zs : List Int) : Int := if 1200 < zs.length then 2 else 0
def kcBytes (zs : List Int) : List Int := if 1200 < zs.length then [] else hashOf (spAt (padB zs) (padLen zs.length / 136))

theorem kcBytes_length (zs : List Int) : (kcBytes zs).length ≤ 32 := by
  unfold kcBytes; split
  · simp
  · rw [hashOf_length]; omega

theorem kcBytes_range (zs : List Int) (h : ∀ x ∈ zs, 0 ≤ x ∧ x ≤ 255) : ∀ x ∈ kcBytes zs, 0 ≤ x ∧ x ≤ 255 := by
  unfold kcBytes; split
  · intro x hx; simp at hx
  · intro x hx
    obtain ⟨i, _, rfl⟩ := List.mem_map.1 hx
    omega

end Go.Proofs.YtioifgbnninmjaaGreatDoor

/- What is proved here: plain facts on what a header is hashed to: without its commits, and without its seal; no program is named. -/
namespace Go.Proofs.YtioifgbnninmjaaGreatDoor
open Go.RowKit
set_option linter.unusedVariables false
set_option maxRecDepth 100000

/-- A header without commits, and its slices. -/
def noK (h : Hd) : Hd := { h with k := [] }
def xNoK (x : HS) : HS := { x with k := ⟨none, 0, 0⟩ }
/-- A header without its seal, and its slices. -/
def noE (h : Hd) : Hd := { h with e := [] }
def xNoE (x : HS) : HS := { x with e := ⟨none, 0, 0⟩ }

theorem hdFlt_noK {h : Hd} (hf : hdFlt h = 0) : hdFlt (noK h) = 0 := by
  unfold hdFlt at hf ⊢
  have e1 : hdLen (noK h) = hdLen h := rfl
  have e2 : hdNum (noK h) = hdNum h := rfl
  have e3 : (noK h).s = h.s := rfl
  have e4 : coFlt (noK h).k = 0 := by simp [noK, coFlt, coFrom]
  rw [e1, e2, e3, e4]
  split at hf
  · omega
  · rename_i h1
    rw [if_neg h1]
    split at hf
    · omega
    · rename_i h2
      rw [if_neg h2]
      split at hf
      · rename_i h3; rw [if_pos h3]
      · rename_i h3; exact absurd hf h3

theorem hdFlt_noE {h : Hd} (hf : hdFlt h = 0) : hdFlt (noE h) = 0 := by
  have hl : hdLen h = false := by
    cases hh : hdLen h with
    | false => rfl
    | true => unfold hdFlt at hf; rw [if_pos hh] at hf; omega
  have e1 : hdLen (noE h) = false := by
    unfold hdLen at hl ⊢
    simp only [Bool.or_eq_false_iff] at hl ⊢
    exact ⟨hl.1, by simp [noE]⟩
  have e2 : hdNum (noE h) = hdNum h := rfl
  have e3 : (noE h).s = h.s := rfl
  have e4 : (noE h).k = h.k := rfl
  unfold hdFlt at hf ⊢
  rw [e1, e2, e3, e4]
  rw [hl] at hf
  exact hf

theorem BRow.nil0 (w : World) : BRow w none 0 [] := ⟨rfl, fun n hn => by simp at hn, fun _ => rfl, fun y hy => by cases hy⟩
theorem BsRow.nil0 (w : World) : BsRow w none 0 [] := ⟨rfl, fun z hz => by simp at hz, fun hp => absurd hp (Nat.lt_irrefl _)⟩

theorem HOk.noK {w : World} {x : HS} {h : Hd} (o : HOk w x h) : HOk w (xNoK x) (noK h) := ⟨o.p, o.t, o.s, o.r, o.g, o.e, BsRow.nil0 w⟩
theorem HOk.noE {w : World} {x : HS} {h : Hd} (o : HOk w x h) : HOk w (xNoE x) (noE h) := ⟨o.p, o.t, o.s, o.r, o.g, BRow.nil0 w, o.k⟩
theorem HNil.noK {w : World} {x : HS} (o : HNil w x) : HNil w (xNoK x) := ⟨o.p, o.t, o.s, o.r, o.g, o.e, fun b off e => by cases e⟩
theorem HNil.noE {w : World} {x : HS} (o : HNil w x) : HNil w (xNoE x) := ⟨o.p, o.t, o.s, o.r, o.g, fun _ => rfl, o.k⟩
theorem HSm.noK {h : Hd} (o : HSm h) : HSm (noK h) := ⟨o.p, o.t, o.s, o.sz, o.r, o.g, o.e, Nat.zero_le _, fun z hz => by simp [Go.Proofs.YtioifgbnninmjaaGreatDoor.noK] at hz⟩
theorem HSm.noE {h : Hd} (o : HSm h) : HSm (noE h) := ⟨o.p, o.t, o.s, o.sz, o.r, o.g, Nat.zero_le _, o.k, o.kz⟩

/-- What HashOf and SealHash answer. -/
def hsBytes (h : Hd) : List Int := if hdFlt h = 0 then kcBytes (packL (noK h)) else []
def shBytes (h : Hd) : List Int := if hdFlt h = 0 then kcBytes (packL (noK (noE h))) else []

theorem pkBytes_good {h : Hd} (hf : hdFlt h = 0) : pkBytes h = packL h := if_pos hf

theorem packL_le {h : Hd} (hf : hdFlt h = 0) : (packL h).length ≤ 1200 := by
  have := pk_length h
  rw [pkBytes_good hf] at this
  exact this

theorem packL_pos (h : Hd) : 0 < (packL h).length := wrapL_pos _

theorem packL_rng {w : World} {x : HS} {h : Hd} (hf : hdFlt h = 0) (o : HOk w x h) : ∀ y ∈ packL h, 0 ≤ y ∧ y ≤ 255 := by
  have := pk_range o
  rw [pkBytes_good hf] at this
  exact this

theorem kcCode_good {z : List Int} (h : z.length ≤ 1200) : kcCode z = 0 := if_neg (by omega)

theorem kcBytes_good {z : List Int} (h : z.length ≤ 1200) : (kcBytes z).length = 32 := by
  unfold kcBytes
  rw [if_neg (by omega), hashOf_length]

theorem hs_length (h : Hd) : (hsBytes h).length ≤ 32 := by
  unfold hsBytes; split
  · exact kcBytes_length _
  · simp

theorem shh_length (h : Hd) : (shBytes h).length ≤ 32 := by
  unfold shBytes; split
  · exact kcBytes_length _
  · simp

theorem hs_range {w : World} {x : HS} {h : Hd} (o : HOk w x h) : ∀ y ∈ hsBytes h, 0 ≤ y ∧ y ≤ 255 := by
  unfold hsBytes; split
  · rename_i hf; exact kcBytes_range _ (packL_rng (hdFlt_noK hf) o.noK)
  · intro y hy; simp at hy

theorem shh_range {w : World} {x : HS} {h : Hd} (o : HOk w x h) : ∀ y ∈ shBytes h, 0 ≤ y ∧ y ≤ 255 := by
  unfold shBytes; split
  · rename_i hf; exact kcBytes_range _ (packL_rng (hdFlt_noK (hdFlt_noE hf)) o.noE.noK)
  · intro y hy; simp at hy

theorem shBytes_eq {h : Hd} (hf : hdFlt h = 0) : shBytes h = hsBytes (noE h) := by
  unfold shBytes hsBytes
  rw [if_pos hf, if_pos (hdFlt_noE hf)]

end Go.Proofs.YtioifgbnninmjaaGreatDoor

/- What is proved here: what the program says of the type int64. -/
namespace Go.Proofs.YtioifgbnninmjaaGreatDoor

theorem info2 : (Tryz.prog.info? 2).map (fun i => (i.zero, i.size, i.bytes)) = some (some (.int .i64 0), 1, 8) := by kernel_rfl

end Go.Proofs.YtioifgbnninmjaaGreatDoor

/- What is proved here: WideOf of the program and of the model, for every number. -/
namespace Go.Proofs.YtioifgbnninmjaaGreatDoor
open Go.RowKit
set_option linter.unusedVariables false
set_option maxRecDepth 100000

/-- The limbs of a number, and what is left of it behind some of them. -/
def wofList (n : Int) : List Int := [n % 4294967296, n / 4294967296, 0, 0, 0, 0, 0, 0]
def wofRest (n : Int) (k : Nat) : Int := if k = 0 then n else if k = 1 then n / 4294967296 else 0
def woCode (n : Int) : Int := if n < 0 then 3 else 0
def woList (n : Int) : List Int := if n < 0 then [] else wofList n

theorem woList_length (n : Int) : (woList n).length ≤ 8 := by unfold woList; split <;> simp [wofList]

theorem wraps_i64 (n : Int) (h₀ : 0 ≤ n) (h₁ : n < 2 ^ 63) : IntKind.i64.wrap n = n := by rw [IntKind.wrap_i64]; omega

theorem and_word (n : Int) (h0 : 0 ≤ n) (h1 : n < 9223372036854775808) : bits .and .i64 n 4294967295 = n % 4294967296 := by
  have := bits_mask .i64 63 (by decide) wraps_i64 32 (by decide) n h0 (by omega)
  rw [show (2 : Int) ^ 32 - 1 = 4294967295 by decide] at this
  rw [this, show (2 : Int) ^ 32 = 4294967296 by decide]

theorem wof_at (n : Int) (h0 : 0 ≤ n) (h1 : n < 9223372036854775808) (k : Nat) (hk : k < 8) : wofRest n k % 4294967296 = (wofList n).getD k 0 ∧ wofRest n k / 4294967296 = wofRest n (k + 1) ∧ 0 ≤ wofRest n k ∧ wofRest n k < 9223372036854775808 := by
  match k, hk with
  | 0, _ => simp [wofRest, wofList]; omega
  | 1, _ => simp [wofRest, wofList]; omega
  | k + 2, hk =>
    have : (wofList n).getD (k + 2) 0 = 0 := by
      match k, hk with
      | 0, _ | 1, _ | 2, _ | 3, _ | 4, _ | 5, _ => rfl
    rw [this]
    simp [wofRest]

set_option maxHeartbeats 2000000 in
theorem implWideOf_any (n : Int) (hlo : -9223372036854775808 ≤ n) (hhi : n < 9223372036854775808) (w : World) :
    Calls Tryz.prog 88 #[.int .i64 n] w fun e w' => ∃ a' cap', e = .returned (.agg #[.int .i64 (woCode n), .slice a' (woList n).length cap']) ∧
      w'.ownsRow w.heap.size 2 1 (.slice a' (woList n).length cap') (woList n).length ((woList n).map (Value.int .i64)) ∧ Below w.heap.size w w' := by
  by_cases hm : n < 0
  · have e1 : woCode n = 3 := if_pos hm
    have e2 : woList n = [] := if_pos hm
    rw [e1, e2]
    clear e1 e2
    go_enter Tryz.func88, Tryz.ntmps88
    go_wp2_with fail
    exact bodyPost_ret (v := .agg #[.int .i64 3, .slice none 0 0]) (by simp [results, Tryz.results88, go_sem]) rfl ⟨none, 0, rfl, World.ownsRow_nil _ _ _ _, (Below.refl _ _).alloc (Nat.le_refl _) _⟩
  · have e1 : woCode n = 0 := if_neg hm
    have e2 : woList n = wofList n := if_neg hm
    rw [e1, e2, show (wofList n).length = 8 from rfl]
    obtain ⟨i0, hi, hz0, hz1, hz2⟩ := info_parts info2
    have WA := hide (wof_at n (by omega) hhi)
    have hzl : (wofList n).length = 8 := rfl
    have w0e : wofRest n 0 = n := rfl
    clear e1 e2
    generalize wofList n = zs at *
    go_enter Tryz.func88, Tryz.ntmps88
    go_wp2_with (at_make; refine wpList_make_full _ rfl _ _ 59 rfl (w.heap.size + 1) 2 i0 (.int .i64 0) 1 Tryz.underlying59 hi hz0 hz1 _ _ _ _ 8 rfl rfl (by omega) (by omega) ?c1 ?c2 ?c3 ?_)
    case c2 => unfold maxLen; omega
    intro w1 hown hgrow
    have hb0 := below_alloc w (.cells #[.int .i64 0, .slice none 0 0] 100)
    have hres : (w.alloc (.cells #[.int .i64 0, .slice none 0 0] 100)).heap[w.heap.size]? = some (.cells #[.int .i64 0, .slice none 0 0] 100 (0, 0)) := by
      show (w.heap.push _)[w.heap.size]? = _
      simp
    have hsz : (w.alloc (.cells #[.int .i64 0, .slice none 0 0] 100)).heap.size = w.heap.size + 1 := by simp
    have hb1 : Below w.heap.size w w1 := hb0.grown hgrow (by rw [hsz]; omega) (fun k e => by cases e)
    have hres1 : w1.heap[w.heap.size]? = some (.cells #[.int .i64 0, .slice none 0 0] 100 (0, 0)) := (hgrow.block _ (by rw [hsz]; omega) (by simp)).trans hres
    have hown0 : w1.ownsRow (w.heap.size + 1) 2 1 (.slice (some ⟨w.heap.size + 1, 0, none⟩) 8 8) 8 ((zs.take 0 ++ List.replicate (8 - 0) 0).map (Value.int .i64)) := by
      have e : (madeCells #[Value.int .i64 0] 8).toList = (zs.take 0 ++ List.replicate (8 - 0) 0).map (Value.int .i64) := by
        rw [toList_madeCells_one]; simp
      rw [← e]; exact hown
    clear hown hgrow hb0 hres hsz
    go_wp2_with fail
    go_loopw [4, 13] (fun r i wr => ∃ k : Nat, k ≤ 8 ∧ i = .int .i64 k ∧ r = .int .i64 (wofRest n k) ∧ wr.ownsRow (w.heap.size + 1) 2 1 (.slice (some ⟨w.heap.size + 1, 0, none⟩) 8 8) 8 ((zs.take k ++ List.replicate (8 - k) 0).map (Value.int .i64)) ∧ Below w.heap.size w wr ∧ wr.heap[w.heap.size]? = some (.cells #[.int .i64 0, .slice none 0 0] 100 (0, 0)))
      (fun _ i _ => 8 - (intOf i).toNat)
    case atStart => exact ⟨0, Nat.zero_le _, rfl, by rw [w0e], hown0, hb1, hres1⟩
    case round =>
      obtain ⟨k, hk, rfl, rfl, hown, hbr, hrs⟩ := hrel
      clear hown0 hb1 hres1
      by_cases hlt : k < 8
      · obtain ⟨ha, hd, hr0, hr1⟩ := (unhide WA) k hlt
        have hand := and_word _ hr0 hr1
        rw [ha] at hand
        have hst := ifill_step zs 8 k hzl hlt
        obtain ⟨r2, hr2⟩ : ∃ r2, r2 = wofRest n (k + 1) := ⟨_, rfl⟩
        rw [← hr2] at hd
        have HR2 := hide hr2
        clear hr2
        generalize wofRest n k = r at hd hr0 hr1 hand
        generalize zs.getD k 0 = z at hand hst
        have hfz := hown.frozenAt k
        obtain ⟨u, hu⟩ : ∃ u, wr.cell? ⟨w.heap.size + 1, k, none⟩ = some u := by
          rw [hown.cellAt k (by omega)]
          exact ⟨_, List.getElem?_eq_getElem (by rw [hown.1]; omega)⟩
        have R := hown.stored k (.int .i64 z)
        rw [hst] at R
        have HR := R.1
        have HB : Below w.heap.size w (wr.setCell ⟨w.heap.size + 1, k, none⟩ (.int .i64 z)) := hbr.setCell (by simp) _
        have HS : (wr.setCell ⟨w.heap.size + 1, k, none⟩ (.int .i64 z)).heap[w.heap.size]? = some (.cells #[.int .i64 0, .slice none 0 0] 100 (0, 0)) := (heap_setCell_other wr ⟨w.heap.size + 1, k, none⟩ w.heap.size _ (by simp)).trans hrs
        clear R hown hst hrs hbr ha
        go_wp2_with fail
        go_roundw
        case rel => exact ⟨k + 1, by omega, by go_num, by rw [unhide HR2], HR, HB, HS⟩
        case measure => simp [intOf]; omega
      · obtain rfl : k = 8 := by omega
        obtain ⟨q0, q1, f0, f1⟩ := res_facts hrs
        go_wp2_with fail
        refine bodyPost_ret (v := .agg #[.int .i64 0, .slice (some ⟨w.heap.size + 1, 0, none⟩) 8 8]) (by simp [results, Tryz.results88, go_sem, q0, q1]) rfl ⟨_, 8, rfl, ?_, ?_⟩
        · have : (zs.take 8 ++ List.replicate (8 - 8) 0) = zs := by rw [List.take_of_length_le (by omega)]; simp
          rw [this] at hown
          exact ownsRow_base (ownsRow_setCell_below (ownsRow_setCell_below hown (by simp) _) (by simp) _) (by omega)
        · exact (hbr.setCell (by simp) _).setCell (by simp) _

set_option maxHeartbeats 2000000 in
theorem l4Of_any (n : Int) (hlo : 0 ≤ n) (hhi : n < 9223372036854775808) (w : World) :
    Calls Tryz.prog 47 #[.int .i64 n] w fun e w' => e = .returned (.slice (some ⟨w.heap.size, 0, none⟩) 8 8) ∧
      w'.ownsRow w.heap.size 2 1 (.slice (some ⟨w.heap.size, 0, none⟩) 8 8) 8 ((wofList n).map (Value.int .i64)) ∧ Below w.heap.size w w' := by
  obtain ⟨i0, hi, hz0, hz1, hz2⟩ := info_parts info2
  go_enter Tryz.func47, Tryz.ntmps47
  go_wp2_with (at_make; refine wpList_make_full _ rfl _ _ 59 rfl w.heap.size 2 i0 (.int .i64 0) 1 Tryz.underlying59 hi hz0 hz1 _ _ _ _ 8 rfl rfl (by omega) (by omega) ?c1 ?c2 ?c3 ?_)
  case c1 => rw [hz2]; omega
  case c2 => unfold maxLen; omega
  case c3 => simp
  intro w1 hown hgrow
  have hb1 : Below w.heap.size w w1 := (Below.refl _ _).grown hgrow (Nat.le_refl _) (fun k e => by cases e)
  rw [toList_madeCells_one] at hown
  have f0 := hown.frozenAt 0
  have f1 := hown.frozenAt 1
  have c0 : w1.cell? ⟨w.heap.size, 0, none⟩ = some (.int .i64 0) := by
    rw [hown.cellAt 0 (by omega)]; rfl
  have c1 : w1.cell? ⟨w.heap.size, 1, none⟩ = some (.int .i64 0) := by
    rw [hown.cellAt 1 (by omega)]; rfl
  have R := (hown.stored 0 (.int .i64 (n % 4294967296)))
  have R2 := (R.1.stored 1 (.int .i64 (n / 4294967296)))
  have HB := (hb1.setCell (p := ⟨w.heap.size, 0, none⟩) (Nat.le_refl _) (.int .i64 (n % 4294967296))).setCell (p := ⟨w.heap.size, 1, none⟩) (Nat.le_refl _) (.int .i64 (n / 4294967296))
  have HR := hide R2.1
  have HBB := hide HB
  clear R R2 HB hown hgrow hb1
  go_wp2_with fail
  go_ret
  exact ⟨rfl, unhide HR, unhide HBB⟩

end Go.Proofs.YtioifgbnninmjaaGreatDoor

/- What is proved here: WideFault of the program and of the model, for every slice of numbers, and that of two numbers, one after the other. -/
namespace Go.Proofs.YtioifgbnninmjaaGreatDoor
open Go.RowKit
set_option linter.unusedVariables false
set_option maxRecDepth 100000

set_option maxHeartbeats 1000000 in
theorem wdIs_any (n : Int) (w : World) : Calls Tryz.prog 159 #[.int .i64 n] w fun e w' => e = .returned (.bool (isWord n)) ∧ w' = w := by
  by_cases h0 : 0 ≤ n
  · by_cases h1 : n ≤ 4294967295
    · have e0 : decide (0 ≤ n) = true := decide_eq_true h0
      have e1 : decide (n ≤ 4294967295) = true := decide_eq_true h1
      go_enter Tryz.func159, Tryz.ntmps159
      go_wp2
      go_ret
      exact ⟨ret_bool (by simp [isWord, h0, h1]), rfl⟩
    · have e0 : decide (0 ≤ n) = true := decide_eq_true h0
      have e1 : decide (n ≤ 4294967295) = false := decide_eq_false h1
      go_enter Tryz.func159, Tryz.ntmps159
      go_wp2
      go_ret
      exact ⟨ret_bool (by simp [isWord, h0, h1]), rfl⟩
  · have e0 : decide (0 ≤ n) = false := decide_eq_false h0
    go_enter Tryz.func159, Tryz.ntmps159
    go_wp2
    go_ret
    exact ⟨ret_bool (by rw [isWord, decide_eq_false (by omega)]), rfl⟩

set_option maxHeartbeats 1000000 in
theorem wdWord_any (v : Int) (w : World) : Calls Tryz.prog 147 #[.int .i64 v] w fun e w' => e = .returned (.bool (isWord v)) ∧ w' = w := by
  have HI := hide (show ∀ W, Calls Tryz.prog 80 #[.int .i64 v, .int .i64 0, .int .i64 4294967295] W fun e w' => e = .returned (.bool (isWord v)) ∧ w' = W from in_any v 0 4294967295)
  go_enter Tryz.func147, Tryz.ntmps147
  go_wp2_with fail
  refine ((unhide HI) _).mono ?_
  rintro e w' ⟨rfl, rfl⟩
  go_wp2_with fail
  go_ret
  exact ⟨rfl, rfl⟩

/-- The code of a wide number. -/
def wfCode (xs : List Int) : Int := if xs.length = 8 then (if xs.all isWord then 0 else 3) else 1

theorem wf_len (xs : List Int) (h : xs.length ≠ 8) : wfCode xs = 1 := by unfold wfCode; rw [if_neg h]
theorem wf_ok (xs : List Int) (h : xs.length = 8) (hk : (xs.take 8).all isWord = true) : wfCode xs = 0 := by
  rw [List.take_of_length_le (by omega)] at hk
  unfold wfCode; rw [if_pos h, if_pos hk]
theorem wf_bad (xs : List Int) (h : xs.length = 8) (k : Nat) (hk : k < 8) (hb : isWord (xs.getD k 0) = false) : wfCode xs = 3 := by
  unfold wfCode
  rw [if_pos h, if_neg]
  intro ha
  rw [List.all_eq_true] at ha
  have := ha (xs.getD k 0) (by rw [getD_at _ _ (by omega)]; exact List.getElem_mem _)
  rw [hb] at this; cases this
theorem wf_step (xs : List Int) (k : Nat) (hk : k < xs.length) (hp : (xs.take k).all isWord = true) (hb : isWord (xs.getD k 0) = true) : (xs.take (k + 1)).all isWord = true := by
  rw [List.take_succ_eq_append_getElem hk, List.all_append, hp]
  rw [getD_at _ _ hk] at hb
  simp [hb]
/-- What a code of 0 says. -/
theorem wf_zero (xs : List Int) (h : wfCode xs = 0) : xs.length = 8 ∧ ∀ i, 0 ≤ xs.getD i 0 ∧ xs.getD i 0 ≤ 4294967295 := by
  unfold wfCode at h
  split at h
  case isTrue hl =>
    split at h
    case isTrue ha =>
      refine ⟨hl, fun i => ?_⟩
      by_cases hi : i < xs.length
      · rw [List.all_eq_true] at ha
        have := ha (xs.getD i 0) (by rw [getD_at _ _ hi]; exact List.getElem_mem _)
        exact of_decide_eq_true this
      · rw [List.getD_eq_getElem?_getD, List.getElem?_eq_none (by omega)]
        simp
    case isFalse => cases h
  case isFalse => cases h

set_option maxHeartbeats 2000000 in
theorem implWFault_any (a : Option Addr) (n cap : Nat) (xs : List Int) (w : World) (h : IRow w a n xs) (hl : n ≤ 1048576) :
    Calls Tryz.prog 146 #[.slice a n cap] w fun e w' => e = .returned (.int .i64 (wfCode xs)) ∧ w' = w := by
  have hxl := h.1
  by_cases hn : n = 8
  · subst hn
    obtain ⟨b, off, rfl, hb, hc⟩ := h.at (by omega)
    have HC := hide hc
    have WK := hide (wf_ok xs hxl)
    have WB := hide (wf_bad xs hxl)
    have WS := hide (fun k (hk : k < 8) => wf_step xs k (by omega))
    clear h hc
    go_enter Tryz.func146, Tryz.ntmps146
    go_wp2
    go_loop [10] (fun i => ∃ k : Nat, k ≤ 8 ∧ i = .int .i64 k ∧ (xs.take k).all isWord = true) (fun i => 8 - (intOf i).toNat)
    case atStart => exact ⟨0, Nat.zero_le _, rfl, by simp⟩
    case round =>
      obtain ⟨k, hk, rfl, hpre⟩ := hrel
      by_cases hlt : k < 8
      · have hck := (unhide HC) k hlt
        have hs := (unhide WS) k hlt hpre
        have hb' := (unhide WB) k hlt
        have HP := hide hpre
        clear hpre
        generalize xs.getD k 0 = x at hck hs hb'
        have HS := hide hs
        have HB := hide hb'
        clear hs hb'
        have HW := hide (wdIs_any x w)
        by_cases hx : isWord x = true
        · rw [hx] at HW
          have HT := hide ((unhide HS) hx)
          clear hx
          go_wp2_with fail
          refine (unhide HW).mono ?_
          rintro e w' ⟨rfl, rfl⟩
          go_wp2_with fail
          go_round
          case rel => exact ⟨k + 1, by omega, by go_num, unhide HT⟩
          case measure => simp [intOf]; omega
        · have hx' : isWord x = false := by simpa using hx
          rw [hx'] at HW
          have HT := hide ((unhide HB) hx')
          clear hx hx'
          go_wp2_with fail
          refine (unhide HW).mono ?_
          rintro e w' ⟨rfl, rfl⟩
          go_wp2_with fail
          go_ret
          exact ⟨ret_int (unhide HT).symm, rfl⟩
      · obtain rfl : k = 8 := by omega
        have HT := hide ((unhide WK) hpre)
        clear hpre
        go_wp2_with fail
        go_ret
        exact ⟨ret_int (unhide HT).symm, rfl⟩
  · have hlen : (((n : Nat) : Int) != 8) = true := by simp; omega
    have e := wf_len xs (by omega)
    have HE := hide e
    clear e h
    go_enter Tryz.func146, Tryz.ntmps146
    go_wp2
    go_ret
    exact ⟨ret_int (unhide HE).symm, rfl⟩

set_option maxHeartbeats 2000000 in
theorem l4Fault_any (a : Option Addr) (n cap : Nat) (xs : List Int) (w : World) (h : IRow w a n xs) (hl : n ≤ 1048576) :
    Calls Tryz.prog 129 #[.slice a n cap] w fun e w' => e = .returned (.int .i64 (wfCode xs)) ∧ w' = w := by
  have hxl := h.1
  by_cases hn : n = 8
  · subst hn
    obtain ⟨b, off, rfl, hb, hc⟩ := h.at (by omega)
    have HC := hide hc
    have WK := hide (wf_ok xs hxl)
    have WB := hide (wf_bad xs hxl)
    have WS := hide (fun k (hk : k < 8) => wf_step xs k (by omega))
    clear h hc
    go_enter Tryz.func129, Tryz.ntmps129
    go_wp2
    go_loop [3] (fun i => ∃ k : Nat, k ≤ 8 ∧ i = .int .i64 k ∧ (xs.take k).all isWord = true) (fun i => 8 - (intOf i).toNat)
    case atStart => exact ⟨0, Nat.zero_le _, rfl, by simp⟩
    case round =>
      obtain ⟨k, hk, rfl, hpre⟩ := hrel
      by_cases hlt : k < 8
      · have hck := (unhide HC) k hlt
        have hs := (unhide WS) k hlt hpre
        have hb' := (unhide WB) k hlt
        have HP := hide hpre
        clear hpre
        generalize xs.getD k 0 = x at hck hs hb'
        have HS := hide hs
        have HB := hide hb'
        clear hs hb'
        have HW := hide (wdWord_any x w)
        by_cases hx : isWord x = true
        · rw [hx] at HW
          have HT := hide ((unhide HS) hx)
          clear hx
          go_wp2_with fail
          refine (unhide HW).mono ?_
          rintro e w' ⟨rfl, rfl⟩
          go_wp2_with fail
          go_round
          case rel => exact ⟨k + 1, by omega, by go_num, unhide HT⟩
          case measure => simp [intOf]; omega
        · have hx' : isWord x = false := by simpa using hx
          rw [hx'] at HW
          have HT := hide ((unhide HB) hx')
          clear hx hx'
          go_wp2_with fail
          refine (unhide HW).mono ?_
          rintro e w' ⟨rfl, rfl⟩
          go_wp2_with fail
          go_ret
          exact ⟨ret_int (unhide HT).symm, rfl⟩
      · obtain rfl : k = 8 := by omega
        have HT := hide ((unhide WK) hpre)
        clear hpre
        go_wp2_with fail
        go_ret
        exact ⟨ret_int (unhide HT).symm, rfl⟩
  · have hlen : (((n : Nat) : Int) != 8) = true := by simp; omega
    have e := wf_len xs (by omega)
    have HE := hide e
    clear e h
    go_enter Tryz.func129, Tryz.ntmps129
    go_wp2
    go_ret
    exact ⟨ret_int (unhide HE).symm, rfl⟩

end Go.Proofs.YtioifgbnninmjaaGreatDoor

/- What is proved here: the faults of two wide numbers, one after the other, of the program and of the model. -/
namespace Go.Proofs.YtioifgbnninmjaaGreatDoor
open Go.RowKit
set_option linter.unusedVariables false
set_option maxRecDepth 100000

/-- The code of two wide numbers. -/
def wf2 (xs ys : List Int) : Int := if wfCode xs = 0 then wfCode ys else wfCode xs

set_option maxHeartbeats 2000000 in
theorem bothFault_any (a b : Option Addr) (n m cap cap2 : Nat) (xs ys : List Int) (w : World) (h : IRow w a n xs) (h2 : IRow w b m ys) (hl : n ≤ 1048576) (hl2 : m ≤ 1048576) :
    Calls Tryz.prog 122 #[.slice a n cap, .slice b m cap2] w fun e w' => e = .returned (.int .i64 (wf2 xs ys)) ∧ w' = w := by
  have H1 := hide (implWFault_any a n cap xs w h hl)
  have H2 := hide (implWFault_any b m cap2 ys w h2 hl2)
  clear h h2 hl hl2
  unfold wf2
  generalize wfCode xs = c at H1
  generalize wfCode ys = d at H2
  by_cases hc : c = 0
  · have hd : (c != 0) = false := by simp [hc]
    rw [if_pos hc]
    clear hc
    go_enter Tryz.func122, Tryz.ntmps122
    go_wp2_with fail
    refine (unhide H1).mono ?_
    rintro e w' ⟨rfl, rfl⟩
    go_wp2_with fail
    refine (unhide H2).mono ?_
    rintro e w' ⟨rfl, rfl⟩
    go_wp2_with fail
    go_ret
    exact ⟨rfl, rfl⟩
  · have hd : (c != 0) = true := by simp [hc]
    rw [if_neg hc]
    clear hc
    go_enter Tryz.func122, Tryz.ntmps122
    go_wp2_with fail
    refine (unhide H1).mono ?_
    rintro e w' ⟨rfl, rfl⟩
    go_wp2_with fail
    go_ret
    exact ⟨rfl, rfl⟩

end Go.Proofs.YtioifgbnninmjaaGreatDoor

/- What is proved here: blocks of eight numbers, read and written whole; the program's wideIn, which reads limbs into such a block. -/
namespace Go.Proofs.YtioifgbnninmjaaGreatDoor
open Go.RowKit
set_option linter.unusedVariables false
set_option maxRecDepth 100000

/-- A load by its run's equation. -/
theorem wpList_load_by {P : Program} {ops : Array Oper} {rest : List Oper} {op : Oper} {a : Act} {w : World} {Q : Exit → Act → World → Prop} (hgd : op.guard = none) (ty : TypeId) (x : Operand) (ho : op.op = .load ty x)
    (p v : Value) (hx : a.eval x = p) (hrun : (Instr.loadAt ty p).run P w = .ok v w) (h : wpList P ops Q rest (a.put op.dst v) w) : wpList P ops Q (op :: rest) a w :=
  wpList_plain hgd fun _ hK => by
    unfold Oper.wp execOp
    simp only [ho, hx, Sem.run_bind, hrun, Sem.run_pure, Result.andThen_ok]
    exact hK _ _ h

/-- A store by its run's equation. -/
theorem wpList_store_by {P : Program} {ops : Array Oper} {rest : List Oper} {op : Oper} {a : Act} {w : World} {Q : Exit → Act → World → Prop} (hgd : op.guard = none) (ty : TypeId) (x y : Operand) (ho : op.op = .store ty x y)
    (p v : Value) (hx : a.eval x = p) (hy : a.eval y = v) (w2 : World) (hrun : (Instr.storeAt ty p v).run P w = .ok () w2) (h : wpList P ops Q rest (a.put op.dst undef) w2) : wpList P ops Q (op :: rest) a w :=
  wpList_plain hgd fun _ hK => by
    unfold Oper.wp execOp
    simp only [ho, hx, hy, Sem.run_bind, hrun, Sem.run_pure, Result.andThen_ok]
    exact hK _ _ h

/-- Numbers as values. -/
def nvals (Z : List Int) : List Value := Z.map (Value.int .i64)
theorem nvals_length (Z : List Int) : (nvals Z).length = Z.length := by simp [nvals]

/-- A block of numbers. -/
def NBlk (w : World) (b : Nat) (Z : List Int) (t : TypeId) : Prop := w.heap[b]? = some (.cells (nvals Z).toArray t (0, 0))

theorem NBlk.cell {w : World} {b : Nat} {Z : List Int} {t : TypeId} (h : NBlk w b Z t) (i : Nat) (hi : i < Z.length) : w.cell? ⟨b, i, none⟩ = some (.int .i64 (Z.getD i 0)) := by
  simp [World.cell?, show w.heap[b]? = _ from h, hi, nvals]

theorem NBlk.free {w : World} {b : Nat} {Z : List Int} {t : TypeId} (h : NBlk w b Z t) (i : Nat) : w.frozen? ⟨b, i, none⟩ = false := frozen_of_row w b i _ t h

theorem NBlk.set {w : World} {b : Nat} {Z : List Int} {t : TypeId} (h : NBlk w b Z t) (i : Nat) (v : Int) : NBlk (w.setCell ⟨b, i, none⟩ (.int .i64 v)) b (Z.set i v) t := by
  have := heap_setCell_same w b i _ t (.int .i64 v) h
  unfold NBlk
  rw [this]
  simp [nvals, List.map_set]

theorem NBlk.other {w : World} {b b' : Nat} {Z : List Int} {t : TypeId} (h : NBlk w b Z t) (i : Nat) (v : Value) (hb : b ≠ b') : NBlk (w.setCell ⟨b', i, none⟩ v) b Z t := by
  unfold NBlk
  rw [heap_setCell_other w ⟨b', i, none⟩ b v hb]
  exact h

theorem NBlk.lt {w : World} {b : Nat} {Z : List Int} {t : TypeId} (h : NBlk w b Z t) : b < w.heap.size := lt_of_block h

theorem NBlk.below {w w' : World} {b C : Nat} {Z : List Int} {t : TypeId} (h : NBlk w b Z t) (hb : Below C w w') (hC : b < C) : NBlk w' b Z t := by
  unfold NBlk
  rw [hb.block b hC]
  exact h

theorem NBlk.new (w : World) (Z : List Int) (t : TypeId) : NBlk (w.alloc (.cells (nvals Z).toArray t)) w.heap.size Z t := by
  show (w.heap.push _)[w.heap.size]? = _
  simp

theorem NBlk.next {w : World} {b : Nat} {Z : List Int} {t : TypeId} (h : NBlk w b Z t) (o : Obj) : NBlk (w.alloc o) b Z t := h.below (below_alloc w o) h.lt

theorem all_n (Z : List Int) : (nvals Z).toArray.all (·.oneCell') = true :=
  all_oneCell_toArray (fun v hv => by obtain ⟨x, _, rfl⟩ := List.mem_map.1 hv; rfl)

theorem NBlk.range {w : World} {b : Nat} {Z : List Int} {t : TypeId} (h : NBlk w b Z t) : w.rangeAt b 0 (nvals Z) := by
  intro j v hj
  rw [Nat.zero_add, cell_of_row w b j _ t _ h]
  simpa using hj

theorem n_there {w : World} {b : Nat} {C : Array Value} {t : TypeId} (h : w.heap[b]? = some (.cells C t (0, 0))) (n : Nat) (hn : n = C.size) : w.there b 0 n := by
  intro j hj
  refine ⟨?_, frozen_of_row w b _ C t h⟩
  rw [Nat.zero_add, cell_of_row w b j C t _ h, Array.getElem?_eq_getElem (by omega)]
  rfl

/-- A whole row stored over a block is that row. -/
theorem n_setAll {b : Nat} {t : TypeId} : ∀ (vs pre post : List Value) (w : World), w.heap[b]? = some (.cells (pre ++ post).toArray t (0, 0)) → post.length = vs.length →
    (w.setCells b pre.length vs).heap[b]? = some (.cells (pre ++ vs).toArray t (0, 0))
  | [], pre, post, w, h, hl => by
    obtain rfl : post = [] := List.eq_nil_of_length_eq_zero (by simpa using hl)
    exact h
  | v :: r, pre, [], w, h, hl => by simp at hl
  | v :: r, pre, p :: post, w, h, hl => by
    have h1 := heap_setCell_same w b pre.length _ t v h
    have e : ((pre ++ p :: post).toArray.setIfInBounds pre.length v) = ((pre ++ [v]) ++ post).toArray := by
      rw [List.setIfInBounds_toArray]
      simp
    rw [e] at h1
    have ih := n_setAll r (pre ++ [v]) post (w.setCell ⟨b, pre.length, none⟩ v) h1 (by simpa using hl)
    have e2 : (pre ++ [v]).length = pre.length + 1 := by simp
    rw [e2] at ih
    show ((w.setCell ⟨b, pre.length, none⟩ v).setCells b (pre.length + 1) r).heap[b]? = _
    rw [ih]
    simp

theorem n_below {B : Nat} {w0 : World} (b : Nat) (hb : B ≤ b) : ∀ (vs : List Value) (o : Nat) (w : World), Below B w0 w → Below B w0 (w.setCells b o vs)
  | [], _, _, h => h
  | v :: r, o, w, h => n_below b hb r (o + 1) _ (h.setCell hb v)

/-- A whole wide number loaded. -/
theorem load8 {w : World} {b : Nat} {Z : List Int} (h : NBlk w b Z 158) (hz : Z.length = 8) : (Instr.loadAt 158 (.pointer (some ⟨b, 0, none⟩))).run Tryz.prog w = .ok (.agg (nvals Z).toArray) w :=
  run_loadAt_mid (P := Tryz.prog) w b 0 158 (nvals Z) _ h.range Tryz.underlying158 rfl (by rw [nvals_length, hz]; kernel_rfl)

/-- A whole wide number stored over another one. -/
theorem store8 {w : World} {b : Nat} {Y Z : List Int} (h : NBlk w b Y 158) (hy : Y.length = 8) (hz : Z.length = 8) :
    ∃ W, (Instr.storeAt 158 (.pointer (some ⟨b, 0, none⟩)) (.agg (nvals Z).toArray)).run Tryz.prog w = .ok () W ∧ NBlk W b Z 158 ∧ (∀ C, C ≤ b → Below C w W) ∧ (∀ c, c ≠ b → W.heap[c]? = w.heap[c]?) := by
  have hsz : (nvals Z).toArray.size = 8 := by simp [nvals, hz]
  refine ⟨w.setCells b 0 (nvals Z), run_storeAt_mid (P := Tryz.prog) w b 0 158 (nvals Z).toArray (n_there h _ (by simp [nvals, hz, hy])) (by rw [hsz]; kernel_rfl) (all_n Z), ?_, ?_, ?_⟩
  · have := n_setAll (nvals Z) [] (nvals Y) w h (by rw [nvals_length, nvals_length, hy, hz])
    unfold NBlk
    simpa using this
  · intro C hC
    exact n_below b hC _ _ _ (Below.refl _ _)
  · intro c hc
    have : ∀ (vs : List Value) (o : Nat) (W : World), (W.setCells b o vs).heap[c]? = W.heap[c]? := by
      intro vs
      induction vs with
      | nil => intro o W; rfl
      | cons v r ih => intro o W; exact (ih (o + 1) _).trans (heap_setCell_other W ⟨b, o, none⟩ c v hc)
    exact this _ _ _

theorem nsize2 : (Tryz.prog.info? 2).map (·.size) = some 1 := by kernel_rfl

/-- Numbers copied over a block of as many. -/
theorem copy8 {w : World} {b b2 off cap n : Nat} {Y xs : List Int} {t : TypeId} (h : NBlk w b Y t) (hy : Y.length = n) (hr : IRow w (some ⟨b2, off, none⟩) n xs) :
    ∃ W, (Builtin.copy_ #[59, 59] 3 #[.slice (some ⟨b, 0, none⟩) n n, .slice (some ⟨b2, off, none⟩) n cap]).run Tryz.prog w = .ok (goInt n) W ∧ NBlk W b xs t ∧ w.grownBy W (some b) := by
  have hxl := hr.1
  have hr2 := run_copy_row (P := Tryz.prog) w 59 59 3 2 b 0 n n ⟨b2, off, none⟩ n cap (nvals Y).toArray t (nvals xs) Tryz.underlying59 nsize2 h (by rw [nvals_length, hxl]; exact (Nat.min_self n).symm) (by
    intro j v hj
    have hjl : j < xs.length := by have := (List.getElem?_eq_some_iff.1 hj).1; rwa [nvals_length] at this
    rw [hr.2.2.2 _ rfl j (by rw [← hr.1]; exact hjl)]
    rw [nvals, List.getElem?_map, List.getElem?_eq_getElem hjl] at hj
    rw [getD_at _ _ hjl]
    exact hj) (by simp [nvals, hy, hxl]) (fun v hv => by obtain ⟨z, _, rfl⟩ := List.mem_map.1 hv; rfl)
  have e1 : ((nvals Y).toArray.toList.take 0 ++ nvals xs ++ (nvals Y).toArray.toList.drop (0 + (nvals xs).length)) = nvals xs := by
    rw [nvals_length, hxl, List.drop_eq_nil_of_le (by simp [nvals, hy])]; simp
  rw [e1, nvals_length, hxl] at hr2
  exact ⟨_, hr2, setRow_heap w b _ _ t _ h, ⟨rfl, rfl, rfl, by simp [World.setRow], fun k _ hk => setRow_other w b k _ (fun e => hk (by simp [e]))⟩⟩

set_option maxHeartbeats 2000000 in
theorem wideIn_any (b off cap : Nat) (xs : List Int) (w : World) (h : IRow w (some ⟨b, off, none⟩) 8 xs) :
    Calls Tryz.prog 123 #[.slice (some ⟨b, off, none⟩) 8 cap] w fun e w' => e = .returned (.agg (nvals xs).toArray) ∧ Below w.heap.size w w' := by
  have hxl := h.1
  have HH := hide h
  clear h
  obtain ⟨w1, hw1⟩ : ∃ w1, w1 = (w.alloc (.cells #[.int .i64 0, .int .i64 0, .int .i64 0, .int .i64 0, .int .i64 0, .int .i64 0, .int .i64 0, .int .i64 0] 158)).alloc (.cells #[.int .i64 0, .int .i64 0, .int .i64 0, .int .i64 0, .int .i64 0, .int .i64 0, .int .i64 0, .int .i64 0] 158) := ⟨_, rfl⟩
  have e1 : (w.alloc (.cells #[.int .i64 0, .int .i64 0, .int .i64 0, .int .i64 0, .int .i64 0, .int .i64 0, .int .i64 0, .int .i64 0] 158)).alloc (.cells #[.int .i64 0, .int .i64 0, .int .i64 0, .int .i64 0, .int .i64 0, .int .i64 0, .int .i64 0, .int .i64 0] 158) = w1 := hw1.symm
  have G1 : Below w.heap.size w w1 := by rw [hw1]; exact (below_alloc w _).alloc (by simp) _
  have S1 : NBlk w1 w.heap.size (List.replicate 8 0) 158 := by
    rw [hw1]
    exact (NBlk.new w (List.replicate 8 0) _).next _
  have R1 : NBlk w1 (w.heap.size + 1) (List.replicate 8 0) 158 := by
    have := NBlk.new (w.alloc (.cells #[.int .i64 0, .int .i64 0, .int .i64 0, .int .i64 0, .int .i64 0, .int .i64 0, .int .i64 0, .int .i64 0] 158)) (List.replicate 8 0) 158
    rw [hw1]
    rw [show (w.alloc (.cells #[.int .i64 0, .int .i64 0, .int .i64 0, .int .i64 0, .int .i64 0, .int .i64 0, .int .i64 0, .int .i64 0] 158)).heap.size = w.heap.size + 1 by simp] at this
    exact this
  obtain ⟨w2, hcp, R2, g2⟩ := copy8 (cap := cap) R1 (by simp) ((unhide HH).below G1 (Nat.le_refl _))
  have hs : w.heap.size < w1.heap.size := S1.lt
  have S2 : NBlk w2 w.heap.size (List.replicate 8 0) 158 := by
    unfold NBlk
    rw [g2.block _ hs (by simp)]
    exact S1
  have G2 : Below w.heap.size w w2 := G1.grown g2 (Nat.le_of_lt hs) (fun k e => by cases e; omega)
  have HLD := hide (load8 R2 hxl)
  obtain ⟨w3, hst, S3, K3, O3⟩ := store8 S2 (by simp) hxl
  have HST := hide hst
  have G3 := G2.trans (K3 _ (Nat.le_refl _))
  have HS3 := hide (show w3.heap[w.heap.size]? = some (.cells (nvals xs).toArray 158 (0, 0)) from S3)
  have vlen : (nvals xs).length = 8 := by rw [nvals_length, hxl]
  have HG := hide G3
  clear hst S3 K3 O3 S2 R2 g2 G2 S1 R1 G1 hw1 hs G3
  generalize nvals xs = V at HLD HST HS3 vlen ⊢
  go_enter Tryz.func123, Tryz.ntmps123
  go_wp2_with (first | rw [e1] | refine wpList_load_by rfl 158 _ rfl _ _ rfl (unhide HLD) ?_ | refine wpList_store_by rfl 158 _ _ rfl _ _ rfl rfl _ (unhide HST) ?_)
  exact bodyPost_ret (results_cell_row rfl _ _ w.heap.size 158 _ (0, 0) _ rfl (unhide HS3) Tryz.underlying158 rfl (by rw [List.size_toArray, vlen]; kernel_rfl)) rfl ⟨rfl, unhide HG⟩

end Go.Proofs.YtioifgbnninmjaaGreatDoor
