/- What is proved here: what the program's blockOf answers: the same eleven cells. -/
import Derived.Test.YtdmcmlcmgbbclaaGreatChecked
import Derived.Test.YtdmcmlcmgbbclaaGreatJ3
import Derived.WalkKit
import Derived.WalkLawsBesides
import Derived.WalkSmall
import Derived.KernelRfl
import Derived.WalkSpells
import Derived.Test.YtdmcmlcmgbbclaaGreatJ8
import Derived.Test.YtdmcmlcmgbbclaaGreatJ1
import Derived.RegionTactic
import Derived.BigRegion
import Derived.Laws.BitsLemmas
import Derived.Laws.BitsAllLaws
import Derived.Deep.RegionWith
import Derived.Deep.RegionHeld3
import Derived.Deep.DrawnRows
import Derived.Deep.MidRow
import Derived.Deep.DeepCutAuto
import Derived.Test.YtdmcmlcmgbbclaaGreatJ20
import Derived.Test.YtdmcmlcmgbbclaaGreatJ16
import Derived.Test.YtdmcmlcmgbbclaaGreatJ10
import Derived.Test.YtdmcmlcmgbbclaaGreatJ9
namespace Go.Proofs.YtdmcmlcmgbbclaaGreat
set_option linter.unusedVariables false
set_option linter.unusedSimpArgs false
open Go.RowKit
set_option maxRecDepth 100000

set_option maxHeartbeats 4000000 in
theorem blockOf_any (x : HS) (h : Hd) (w : World) : Calls Tryz.prog 98 #[.agg (hvals x h)] w fun e w' => e = .returned (.agg (hvals x h)) ∧ Below w.heap.size w w' := by
 unfold hvals
 go_enter Tryz.func98, Tryz.ntmps98
 go_wp2_with fail
 refine bodyPost_ret (v := .agg #[.slice x.p.a x.p.n x.p.c, .int .i64 h.n1, .int .i64 h.n2, .int .i64 h.n3, .slice x.t.a x.t.n x.t.c, .int .i64 h.n5, .slice x.s.a x.s.n x.s.c, .slice x.r.a x.r.n x.r.c, .slice x.g.a x.g.n x.g.c, .slice x.e.a x.e.n x.e.c, .slice x.k.a x.k.n x.k.c]) (by simp [results, Tryz.results98, go_sem]) rfl ⟨rfl, ?_⟩
 exact ((Below.refl w.heap.size w).alloc (Nat.le_refl _) _).alloc (by simp) _

set_option maxRecDepth 100000

set_option maxRecDepth 100000 in
set_option maxHeartbeats 8000000 in
theorem hasLengths_any (x : HS) (h : Hd) (w : World) (o : HOk w x h) :
    Calls Tryz.prog 99 #[.agg (hvals x h)] w fun e w' => e = .returned (.bool (!hdLen h)) ∧ Below w.heap.size w w' := by
 have k0 := SBlk.new w (hvals x h) 139
 have hb := below_alloc w (.cells (hvals x h) 139)
 obtain ⟨W0, e0⟩ : ∃ W0, w.alloc (.cells (hvals x h) 139) = W0 := ⟨_, rfl⟩
 rw [e0] at k0 hb
 obtain ⟨x0, x1, x2, x3, x4, x5, x6, x7, x8, x9, x10⟩ := hcells k0
 have HC := hide (fun (W : World) (hb' : Below W0.heap.size W0 W) => hcells (k0.below hb' k0.lt))
 have HB := hide hb
 obtain ⟨b1, e1⟩ : ∃ b, (((x.p.n : Nat) : Int) != 32) = b := ⟨_, rfl⟩
 obtain ⟨b2, e2⟩ : ∃ b, (((x.t.n : Nat) : Int) != 0) = b := ⟨_, rfl⟩
 obtain ⟨b3, e3⟩ : ∃ b, (((x.t.n : Nat) : Int) != 4) = b := ⟨_, rfl⟩
 obtain ⟨b4, e4⟩ : ∃ b, (((x.r.n : Nat) : Int) != 32) = b := ⟨_, rfl⟩
 obtain ⟨b5, e5⟩ : ∃ b, (((x.g.n : Nat) : Int) != 4) = b := ⟨_, rfl⟩
 obtain ⟨b6, e6⟩ : ∃ b, (((x.e.n : Nat) : Int) != 0) = b := ⟨_, rfl⟩
 obtain ⟨b7, e7⟩ : ∃ b, (((x.e.n : Nat) : Int) != 4) = b := ⟨_, rfl⟩
 have HL : Hid (hdLen h = (b1 || (b2 && b3) || b4 || b5 || (b6 && b7))) := by
  show _ = _
  unfold hdLen
  rw [o.p.1, o.t.1, o.r.1, o.g.1, o.e.1, e1, e2, e3, e4, e5, e6, e7]
 have f1 : (((x.p.n : Nat) : Int) == 32) = !b1 := by rw [← e1]; simp [bne]
 have f4 : (((x.r.n : Nat) : Int) == 32) = !b4 := by rw [← e4]; simp [bne]
 have f5 : (((x.g.n : Nat) : Int) == 4) = !b5 := by rw [← e5]; simp [bne]
 have f6 : (((x.e.n : Nat) : Int) == 0) = !b6 := by rw [← e6]; simp [bne]
 have f7 : (((x.e.n : Nat) : Int) == 4) = !b7 := by rw [← e7]; simp [bne]
 have D1 := hide (fun W => isHash_any x.p.a x.p.n x.p.c W)
 have D2 := hide (fun W => hasAim_to x h b2 b3 W e2 e3)
 have D4 := hide (fun W => isHash_any x.r.a x.r.n x.r.c W)
 have D5 := hide (fun W => isAddr_any x.g.a x.g.n x.g.c W)
 simp only [f1] at D1
 simp only [f4] at D4
 simp only [f5] at D5
 clear o e1 e2 e3 e4 e5 e6 e7 f1 f4 f5 k0 hb
 generalize hdLen h = L at HL
 unfold hvals at e0 ⊢
 go_enter Tryz.func99, Tryz.ntmps99
 go_upto_region 1 with (rw [e0])
 try rw [e0]
 clear e0
 go_cut [3] (fun s wx => s = .bool (!(b6 && b7)) ∧ wx = W0)
 case first =>
  cases b6
  · have f6' : (((x.e.n : Nat) : Int) == 0) = true := f6
    clear f6 f7
    go_wp2_with fail
    go_meet
    exact ⟨rfl, rfl⟩
  · have f6' : (((x.e.n : Nat) : Int) == 0) = false := f6
    clear f6
    go_wp2_with fail
    go_meet
    exact ⟨by simp, rfl⟩
 case rest =>
  obtain ⟨rfl, hwc⟩ := hcut
  rw [hwc]
  clear hwc f6 f7
  generalize hb67 : (b6 && b7) = bs
  rw [hb67] at HL
  clear hb67
  generalize hb23 : (b2 && b3) = bt at D2
  rw [hb23] at HL
  clear hb23
  go_wp2_with fail
  refine ((unhide D1) _).mono ?_
  rintro e w1 ⟨rfl, rfl⟩
  cases b1
  case true =>
   go_wp2_with fail
   go_ret
   exact ⟨ret_bool (by rw [unhide HL]; simp), unhide HB⟩
  go_wp2_with fail
  refine ((unhide D2) _).mono ?_
  rintro e w1 ⟨rfl, b1⟩
  have HB1 := hide ((unhide HB).trans (b1.mono (unhide HB).size))
  cases bt
  case true =>
   go_wp2_with fail
   go_ret
   exact ⟨ret_bool (by rw [unhide HL]; simp), unhide HB1⟩
  obtain ⟨y0, y1, y2, y3, y4, y5, y6, y7, y8, y9, y10⟩ := (unhide HC) _ b1
  clear b1
  go_wp2_with fail
  refine ((unhide D4) _).mono ?_
  rintro e w2 ⟨rfl, rfl⟩
  cases b4
  case true =>
   go_wp2_with fail
   go_ret
   exact ⟨ret_bool (by rw [unhide HL]; simp), unhide HB1⟩
  go_wp2_with fail
  refine ((unhide D5) _).mono ?_
  rintro e w2 ⟨rfl, rfl⟩
  cases b5
  case true =>
   go_wp2_with fail
   go_ret
   exact ⟨ret_bool (by rw [unhide HL]; simp), unhide HB1⟩
  go_wp2_with fail
  go_ret
  exact ⟨ret_bool (by rw [unhide HL]; simp), unhide HB1⟩

set_option maxRecDepth 100000 in
set_option maxHeartbeats 8000000 in
theorem hasNumbers_any (x : HS) (h : Hd) (w : World) :
    Calls Tryz.prog 100 #[.agg (hvals x h)] w fun e w' => e = .returned (.bool (hdNum h)) ∧ Below w.heap.size w w' := by
 have k0 := SBlk.new w (hvals x h) 139
 have hb := below_alloc w (.cells (hvals x h) 139)
 obtain ⟨W0, e0⟩ : ∃ W0, w.alloc (.cells (hvals x h) 139) = W0 := ⟨_, rfl⟩
 rw [e0] at k0 hb
 obtain ⟨x0, x1, x2, x3, x4, x5, x6, x7, x8, x9, x10⟩ := hcells k0
 have HB := hide hb
 obtain ⟨c1, f1⟩ : ∃ c, within h.n1 0 1099511627776 = c := ⟨_, rfl⟩
 obtain ⟨c2, f2⟩ : ∃ c, within h.n2 0 1099511627776 = c := ⟨_, rfl⟩
 obtain ⟨c3, f3⟩ : ∃ c, within h.n3 0 9 = c := ⟨_, rfl⟩
 obtain ⟨c5, f5⟩ : ∃ c, within h.n5 0 2 = c := ⟨_, rfl⟩
 have HN : Hid (hdNum h = (c1 && c2 && c3 && c5)) := by
  show _ = _
  unfold hdNum
  rw [f1, f2, f3, f5]
 have D1 := hide (fun W => isNumber_to h.n1 c1 W f1)
 have D2 := hide (fun W => isNumber_to h.n2 c2 W f2)
 have D3 := hide (fun W => isWithin_to h.n3 0 9 c3 W f3)
 have D5 := hide (fun W => hasNonce_to x h c5 W f5)
 clear f1 f2 f3 f5 k0 hb
 generalize hdNum h = L at HN
 unfold hvals at e0 ⊢
 go_enter Tryz.func100, Tryz.ntmps100
 go_upto_region 1 with (rw [e0])
 try rw [e0]
 clear e0
 go_wp2_with fail
 refine ((unhide D1) _).mono ?_
 rintro e w1 ⟨rfl, rfl⟩
 cases c1
 · go_wp2_with fail
   go_ret
   exact ⟨ret_bool (by rw [unhide HN]; simp), unhide HB⟩
 go_wp2_with fail
 refine ((unhide D2) _).mono ?_
 rintro e w1 ⟨rfl, rfl⟩
 cases c2
 · go_wp2_with fail
   go_ret
   exact ⟨ret_bool (by rw [unhide HN]; simp), unhide HB⟩
 go_wp2_with fail
 refine ((unhide D3) _).mono ?_
 rintro e w1 ⟨rfl, rfl⟩
 cases c3
 · go_wp2_with fail
   go_ret
   exact ⟨ret_bool (by rw [unhide HN]; simp), unhide HB⟩
 go_wp2_with fail
 refine ((unhide D5) _).mono ?_
 rintro e w1 ⟨rfl, b1⟩
 go_wp2_with fail
 go_ret
 exact ⟨ret_bool (by rw [unhide HN]; simp), (unhide HB).trans (b1.mono (unhide HB).size)⟩

set_option maxRecDepth 100000 in
set_option maxHeartbeats 8000000 in
theorem implHeaderFault_any (x : HS) (h : Hd) (w : World) (o : HOk w x h) (m : HSm h) :
    Calls Tryz.prog 65 #[.agg (hvals x h)] w fun e w' => e = .returned (.int .i64 (hdFlt h)) ∧ Below w.heap.size w w' := by
 have k0 := SBlk.new w (hvals x h) 44
 have hb := below_alloc w (.cells (hvals x h) 44)
 obtain ⟨W0, e0⟩ : ∃ W0, w.alloc (.cells (hvals x h) 44) = W0 := ⟨_, rfl⟩
 rw [e0] at k0 hb
 obtain ⟨x0, x1, x2, x3, x4, x5, x6, x7, x8, x9, x10⟩ := hcells k0
 have HO := hide (fun (W : World) (hb : Below w.heap.size w W) => o.below hb (Nat.le_refl _))
 have hsl : x.s.n ≤ 1048576 := by have := o.s.1; have := m.s; omega
 have hkl : x.k.n ≤ 1048576 := by have := o.k.1; have := m.k; omega
 have HE : Hid (hdFlt h = if hdLen h = true then 1 else if hdNum h = false then 3 else if sgFlt h.s = 0 then coFlt h.k else sgFlt h.s) := rfl
 have D1 := hide (fun (W : World) (hb : Below w.heap.size w W) => hasLengths_any x h W ((unhide HO) W hb))
 have D2 := hide (fun (W : World) => hasNumbers_any x h W)
 have D3 := hide (fun (W : World) (hb : Below w.heap.size w W) => votesFault_any x h W ((unhide HO) W hb).s hsl)
 have D4 := hide (fun (W : World) (hb : Below w.heap.size w W) => commitsFault_any x h W ((unhide HO) W hb).k hkl)
 have D0 := hide (blockOf_any x h W0)
 have HB := hide hb
 clear o m hsl hkl HO k0 hb
 generalize hdLen h = L at HE D1
 generalize hdNum h = Nm at HE D2
 generalize sgFlt h.s = q at HE D3
 generalize coFlt h.k = cf at HE D4
 unfold hvals at e0 D0 D1 D2 D4 ⊢
 go_enter Tryz.func65, Tryz.ntmps65
 go_upto_region 1 with (rw [e0])
 try rw [e0]
 clear e0
 go_wp2_with fail
 refine (unhide D0).mono ?_
 rintro e w1 ⟨rfl, b1⟩
 have k1 := SBlk.new w1 (hvals x h) 139
 have hb1 := below_alloc w1 (.cells (hvals x h) 139)
 have hgl : w1.heap.size < (w1.alloc (.cells (hvals x h) 139)).heap.size := by simp
 have HB1 := hide ((unhide HB).trans ((b1.trans (hb1.mono b1.size)).mono (unhide HB).size))
 obtain ⟨W1, e1⟩ : ∃ W1, w1.alloc (.cells (hvals x h) 139) = W1 := ⟨_, rfl⟩
 rw [e1] at k1 HB1 hgl
 obtain ⟨y0, y1, y2, y3, y4, y5, y6, y7, y8, y9, y10⟩ := hcells k1
 have HC := hide (fun (W : World) (hb' : Below W1.heap.size W1 W) => hcells (k1.below hb' k1.lt))
 clear b1 hb1 k1 D0 HB x0 x1 x2 x3 x4 x5 x6 x7 x8 x9 x10
 unfold hvals at e1
 generalize hgb : w1.heap.size = gb at y0 y1 y2 y3 y4 y5 y6 y7 y8 y9 y10 HC hgl ⊢
 go_upto_region 2 with (rw [e1])
 try rw [e1]
 try rw [hgb]
 clear e1 hgb
 go_wp2_with fail
 refine ((unhide D1) _ (unhide HB1)).mono ?_
 rintro e w2 ⟨rfl, b2⟩
 have HB2 := hide ((unhide HB1).trans (b2.mono (unhide HB1).size))
 cases L
 case true =>
  go_wp2_with fail
  go_ret
  exact ⟨ret_int (by rw [unhide HE]; simp), unhide HB2⟩
 have K2 := hide b2
 obtain ⟨z0, z1, z2, z3, z4, z5, z6, z7, z8, z9, z10⟩ := (unhide HC) _ b2
 clear b2 y0 y1 y2 y3 y4 y5 y6 y7 y8 y9 y10
 go_wp2_with fail
 refine ((unhide D2) _).mono ?_
 rintro e w3 ⟨rfl, b3⟩
 have HB3 := hide ((unhide HB2).trans (b3.mono (unhide HB2).size))
 cases Nm
 · go_wp2_with fail
   go_ret
   exact ⟨ret_int (by rw [unhide HE]; simp), unhide HB3⟩
 have K3 := hide ((unhide K2).trans (b3.mono (unhide K2).size))
 obtain ⟨u0, u1, u2, u3, u4, u5, u6, u7, u8, u9, u10⟩ := (unhide HC) _ (unhide K3)
 clear b3 z0 z1 z2 z3 z4 z5 z6 z7 z8 z9 z10 K2 HB2
 go_wp2_with fail
 refine ((unhide D3) _ (unhide HB3)).mono ?_
 rintro e w4 ⟨rfl, b4⟩
 have HB4 := hide ((unhide HB3).trans (b4.mono (unhide HB3).size))
 have K4 := hide ((unhide K3).trans (b4.mono (unhide K3).size))
 clear b4 u0 u1 u2 u3 u4 u5 u6 u7 u8 u9 u10
 by_cases hq : q = 0
 · subst hq
   obtain ⟨v0, v1, v2, v3, v4, v5, v6, v7, v8, v9, v10⟩ := (unhide HC) _ (unhide K4)
   go_wp2_with fail
   refine ((unhide D4) _ (unhide HB4)).mono ?_
   rintro e w5 ⟨rfl, b5⟩
   go_wp2_with fail
   go_ret
   exact ⟨ret_int (by rw [unhide HE]; simp), (unhide HB4).trans (b5.mono (unhide HB4).size)⟩
 · have hne : (q != 0) = true := by simp [hq]
   go_wp2_with fail
   go_ret
   exact ⟨ret_int (by rw [unhide HE]; simp [hq]), unhide HB4⟩

set_option maxRecDepth 100000

/-- One word of a lane that is turned by less than a word. -/
def turnW (h l up down : Int) : Int := h * up % 4294967296 + l / down


/-- A lane turned by n bits: its two words. -/
def laneTurn (h l n : Int) : Int × Int :=
 if n = 0 then (h, l) else if n < 32 then (turnW h l (2 ^ n.toNat) (2 ^ (32 - n).toNat), turnW l h (2 ^ n.toNat) (2 ^ (32 - n).toNat))
 else if n = 32 then (l, h) else (turnW l h (2 ^ (n - 32).toNat) (2 ^ (32 - (n - 32)).toNat), turnW h l (2 ^ (n - 32).toNat) (2 ^ (32 - (n - 32)).toNat))

set_option maxRecDepth 100000

/-- The xor of two words. -/
def xorW (a b : Int) : Int := bits .xor .i64 a b

set_option maxRecDepth 100000
attribute [local go_sem ↓] Go.wp_at_zero Go.wp_at_succ

/-- A block of numbers. -/
def Blk (w : World) (b : Nat) (L : List Int) (t : TypeId) : Prop := w.heap[b]? = some (.cells (L.map (Value.int .i64)).toArray t (0, 0))

theorem Blk.cell {w : World} {b : Nat} {L : List Int} {t : TypeId} (h : Blk w b L t) (i : Nat) (hi : i < L.length) : w.cell? ⟨b, i, none⟩ = some (.int .i64 (L.getD i 0)) := by
 simp [World.cell?, show w.heap[b]? = _ from h, hi]

theorem Blk.free {w : World} {b : Nat} {L : List Int} {t : TypeId} (h : Blk w b L t) (i : Nat) : w.frozen? ⟨b, i, none⟩ = false := frozen_of_row w b i _ t h

theorem Blk.set {w : World} {b : Nat} {L : List Int} {t : TypeId} (h : Blk w b L t) (i : Nat) (x : Int) : Blk (w.setCell ⟨b, i, none⟩ (.int .i64 x)) b (L.set i x) t := by
 have := heap_setCell_same w b i _ t (.int .i64 x) h
 unfold Blk
 rw [this]
 simp [List.map_set]

theorem Blk.other {w : World} {b b' : Nat} {L : List Int} {t : TypeId} (h : Blk w b L t) (i : Nat) (v : Value) (hb : b ≠ b') : Blk (w.setCell ⟨b', i, none⟩ v) b L t := by
 unfold Blk
 rw [heap_setCell_other w ⟨b', i, none⟩ b v hb]
 exact h

theorem Blk.lt {w : World} {b : Nat} {L : List Int} {t : TypeId} (h : Blk w b L t) : b < w.heap.size := lt_of_block h

theorem Blk.below {w w' : World} {b C : Nat} {L : List Int} {t : TypeId} (h : Blk w b L t) (hb : Below C w w') (hC : b < C) : Blk w' b L t := by
 unfold Blk
 rw [hb.block b hC]
 exact h

/-- The offsets of the lanes. -/
def offs : List Int := [0, 1, 62, 28, 27, 36, 44, 6, 55, 20, 3, 10, 43, 25, 39, 41, 45, 15, 21, 8, 18, 2, 61, 56, 14]

/-- A whole row stored over a block is that row. -/
theorem setCells_all {b : Nat} {t : TypeId} : ∀ (vs pre post : List Value) (w : World), w.heap[b]? = some (.cells (pre ++ post).toArray t (0, 0)) → post.length = vs.length →
    (w.setCells b pre.length vs).heap[b]? = some (.cells (pre ++ vs).toArray t (0, 0))
 | [], pre, post, w, h, hl => by
  obtain rfl : post = [] := List.eq_nil_of_length_eq_zero (by simpa using hl)
  exact h
 | v :: r, pre, [], w, h, hl => by simp at hl
 | v :: r, pre, p :: post, w, h, hl => by
  have h1 := heap_setCell_same w b pre.length _ t v h
  have e : ((pre ++ p :: post).toArray.setIfInBounds pre.length v) = ((pre ++ [v]) ++ post).toArray := by
   rw [List.setIfInBounds_toArray]
   simp
  rw [e] at h1
  have ih := setCells_all r (pre ++ [v]) post (w.setCell ⟨b, pre.length, none⟩ v) h1 (by simpa using hl)
  have e2 : (pre ++ [v]).length = pre.length + 1 := by simp
  rw [e2] at ih
  show ((w.setCell ⟨b, pre.length, none⟩ v).setCells b (pre.length + 1) r).heap[b]? = _
  rw [ih]
  simp

/-- A row of numbers stored whole over a block. -/
theorem Blk.store {w : World} {b : Nat} {L M : List Int} {t : TypeId} (h : Blk w b L t) (hl : L.length = M.length) : Blk (w.setCells b 0 (M.map (Value.int .i64))) b M t := by
 have := setCells_all (M.map (Value.int .i64)) [] (L.map (Value.int .i64)) w h (by simpa using hl)
 unfold Blk
 simpa using this

theorem Blk.new (w : World) (L : List Int) (t : TypeId) : Blk (w.alloc (.cells (L.map (Value.int .i64)).toArray t)) w.heap.size L t := by
 show (w.heap.push _)[w.heap.size]? = _
 simp

set_option maxRecDepth 100000

/-- Lanes as values. -/
def vals (Z : List Nat) : List Value := Z.map fun (a : Nat) => Value.int .u64 (a : Int)

/-- A block of lanes. -/
def UBlk (w : World) (b : Nat) (Z : List Nat) (t : TypeId) : Prop := w.heap[b]? = some (.cells (vals Z).toArray t (0, 0))

theorem UBlk.cell {w : World} {b : Nat} {Z : List Nat} {t : TypeId} (h : UBlk w b Z t) (i : Nat) (hi : i < Z.length) : w.cell? ⟨b, i, none⟩ = some (.int .u64 (Z.getD i 0 : Int)) := by
 simp [World.cell?, show w.heap[b]? = _ from h, hi, vals]

theorem UBlk.free {w : World} {b : Nat} {Z : List Nat} {t : TypeId} (h : UBlk w b Z t) (i : Nat) : w.frozen? ⟨b, i, none⟩ = false := frozen_of_row w b i _ t h

theorem UBlk.set {w : World} {b : Nat} {Z : List Nat} {t : TypeId} (h : UBlk w b Z t) (i v : Nat) : UBlk (w.setCell ⟨b, i, none⟩ (.int .u64 (v : Int))) b (Z.set i v) t := by
 have := heap_setCell_same w b i _ t (.int .u64 (v : Int)) h
 unfold UBlk
 rw [this]
 simp [vals, List.map_set]

theorem UBlk.other {w : World} {b b' : Nat} {Z : List Nat} {t : TypeId} (h : UBlk w b Z t) (i : Nat) (v : Value) (hb : b ≠ b') : UBlk (w.setCell ⟨b', i, none⟩ v) b Z t := by
 unfold UBlk
 rw [heap_setCell_other w ⟨b', i, none⟩ b v hb]
 exact h

theorem UBlk.lt {w : World} {b : Nat} {Z : List Nat} {t : TypeId} (h : UBlk w b Z t) : b < w.heap.size := lt_of_block h

theorem UBlk.below {w w' : World} {b C : Nat} {Z : List Nat} {t : TypeId} (h : UBlk w b Z t) (hb : Below C w w') (hC : b < C) : UBlk w' b Z t := by
 unfold UBlk
 rw [hb.block b hC]
 exact h

theorem UBlk.new (w : World) (Z : List Nat) (t : TypeId) : UBlk (w.alloc (.cells (vals Z).toArray t)) w.heap.size Z t := by
 show (w.heap.push _)[w.heap.size]? = _
 simp

theorem UBlk.next {w : World} {b : Nat} {Z : List Nat} {t : TypeId} (h : UBlk w b Z t) (o : Obj) : UBlk (w.alloc o) b Z t := h.below (below_alloc w o) h.lt

set_option maxRecDepth 100000

/-- A load by its run's equation. -/
theorem wpList_load_eq {P : Program} {ops : Array Oper} {rest : List Oper} {op : Oper} {a : Act} {w : World} {Q : Exit → Act → World → Prop} (hgd : op.guard = none) (ty : TypeId) (x : Operand) (ho : op.op = .load ty x)
    (p v : Value) (hx : a.eval x = p) (hrun : (Instr.loadAt ty p).run P w = .ok v w) (h : wpList P ops Q rest (a.put op.dst v) w) : wpList P ops Q (op :: rest) a w :=
 wpList_plain hgd fun _ hK => by
  unfold Oper.wp execOp
  simp only [ho, hx, Sem.run_bind, hrun, Sem.run_pure, Result.andThen_ok]
  exact hK _ _ h

theorem UBlk.range {w : World} {b : Nat} {Z : List Nat} {t : TypeId} (h : UBlk w b Z t) : w.rangeAt b 0 (vals Z) := by
 intro j v hj
 rw [Nat.zero_add, cell_of_row w b j _ t _ h]
 simpa using hj

set_option maxRecDepth 100000

theorem codeUnless_any (b : Bool) (k : Int) (w : World) : Calls Tryz.prog 66 #[.bool b, .int .i64 k] w fun r w' => r = .returned (.int .i64 (unl b k)) ∧ w' = w := by
 cases b
 · go_enter Tryz.func66, Tryz.ntmps66
   go_wp2
   go_ret
   exact ⟨rfl, rfl⟩
 · go_enter Tryz.func66, Tryz.ntmps66
   go_wp2
   go_ret
   exact ⟨rfl, rfl⟩

set_option maxHeartbeats 2000000 in
theorem configRule_any (c : Cf) (e : SnS) (x : Sn) (px : HS) (p : Hd) (nx : HS) (n : Hd) (w : World) (o : StOk w e x px p nx n) :
    Calls Tryz.prog 31 #[.agg (stvals c e x px p nx n)] w fun r w' => r = .returned (.int .i64 (cfFlt c)) ∧ Below w.heap.size w w' := by
 have kb := SBlk.new w (stvals c e x px p nx n) 73
 have bb := below_alloc w (.cells (stvals c e x px p nx n) 73)
 obtain ⟨W0, e0⟩ : ∃ W, w.alloc (.cells (stvals c e x px p nx n) 73) = W := ⟨_, rfl⟩
 rw [e0] at kb bb
 replace o := o.below bb (Nat.le_refl _)
 have k0 : W0.cell? ⟨w.heap.size, 0, none⟩ = some (.int .i64 c.1) := kb.cell 0
 have k1 : W0.cell? ⟨w.heap.size, 1, none⟩ = some (.int .i64 c.2.1) := kb.cell 1
 have k2 : W0.cell? ⟨w.heap.size, 2, none⟩ = some (.int .i64 c.2.2) := kb.cell 2
 have D1 := hide (implConfigFault_any c W0)
 unfold cfvals at D1
 have HBB := hide bb
 have E0 := hide e0
 clear bb e0 kb o
 unfold stvals at E0 ⊢
 go_enter Tryz.func31, Tryz.ntmps31
 go_upto_region 1 with fail
 rw [unhide E0]
 clear E0
 go_wp2_with fail
 refine (unhide D1).mono ?_
 rintro r w1 ⟨rfl, b1⟩
 go_wp2_with fail
 go_ret
 exact ⟨rfl, (unhide HBB).trans (b1.mono (unhide HBB).size)⟩

set_option maxHeartbeats 2000000 in
theorem snapRule_any (c : Cf) (e : SnS) (x : Sn) (px : HS) (p : Hd) (nx : HS) (n : Hd) (w : World) (o : StOk w e x px p nx n) :
    Calls Tryz.prog 32 #[.agg (stvals c e x px p nx n)] w fun r w' => r = .returned (.int .i64 (snFlt x)) ∧ Below w.heap.size w w' := by
 have kb := SBlk.new w (stvals c e x px p nx n) 73
 have bb := below_alloc w (.cells (stvals c e x px p nx n) 73)
 obtain ⟨W0, e0⟩ : ∃ W, w.alloc (.cells (stvals c e x px p nx n) 73) = W := ⟨_, rfl⟩
 rw [e0] at kb bb
 replace o := o.below bb (Nat.le_refl _)
 have k3 : W0.cell? ⟨w.heap.size, 3, none⟩ = some (.int .i64 x.1) := kb.cell 3
 have k4 : W0.cell? ⟨w.heap.size, 4, none⟩ = some (.slice e.2.1.a e.2.1.n e.2.1.c) := kb.cell 4
 have k5 : W0.cell? ⟨w.heap.size, 5, none⟩ = some (.slice e.2.2.1.a e.2.2.1.n e.2.2.1.c) := kb.cell 5
 have k6 : W0.cell? ⟨w.heap.size, 6, none⟩ = some (.slice e.2.2.2.a e.2.2.2.n e.2.2.2.c) := kb.cell 6
 have D1 := hide (implSnapFault_any e x W0 o.os o.ms)
 unfold snvals at D1
 have HBB := hide bb
 have E0 := hide e0
 clear bb e0 kb o
 unfold stvals at E0 ⊢
 go_enter Tryz.func32, Tryz.ntmps32
 go_upto_region 1 with fail
 rw [unhide E0]
 clear E0
 go_wp2_with fail
 refine (unhide D1).mono ?_
 rintro r w1 ⟨rfl, b1⟩
 go_wp2_with fail
 go_ret
 exact ⟨rfl, (unhide HBB).trans (b1.mono (unhide HBB).size)⟩

set_option maxHeartbeats 2000000 in
theorem nextRule_any (c : Cf) (e : SnS) (x : Sn) (px : HS) (p : Hd) (nx : HS) (n : Hd) (w : World) (o : StOk w e x px p nx n) :
    Calls Tryz.prog 33 #[.agg (stvals c e x px p nx n)] w fun r w' => r = .returned (.int .i64 (hdFlt n)) ∧ Below w.heap.size w w' := by
 have kb := SBlk.new w (stvals c e x px p nx n) 73
 have bb := below_alloc w (.cells (stvals c e x px p nx n) 73)
 obtain ⟨W0, e0⟩ : ∃ W, w.alloc (.cells (stvals c e x px p nx n) 73) = W := ⟨_, rfl⟩
 rw [e0] at kb bb
 replace o := o.below bb (Nat.le_refl _)
 have k18 : W0.cell? ⟨w.heap.size, 18, none⟩ = some (.slice nx.p.a nx.p.n nx.p.c) := kb.cell 18
 have k19 : W0.cell? ⟨w.heap.size, 19, none⟩ = some (.int .i64 n.n1) := kb.cell 19
 have k20 : W0.cell? ⟨w.heap.size, 20, none⟩ = some (.int .i64 n.n2) := kb.cell 20
 have k21 : W0.cell? ⟨w.heap.size, 21, none⟩ = some (.int .i64 n.n3) := kb.cell 21
 have k22 : W0.cell? ⟨w.heap.size, 22, none⟩ = some (.slice nx.t.a nx.t.n nx.t.c) := kb.cell 22
 have k23 : W0.cell? ⟨w.heap.size, 23, none⟩ = some (.int .i64 n.n5) := kb.cell 23
 have k24 : W0.cell? ⟨w.heap.size, 24, none⟩ = some (.slice nx.s.a nx.s.n nx.s.c) := kb.cell 24
 have k25 : W0.cell? ⟨w.heap.size, 25, none⟩ = some (.slice nx.r.a nx.r.n nx.r.c) := kb.cell 25
 have k26 : W0.cell? ⟨w.heap.size, 26, none⟩ = some (.slice nx.g.a nx.g.n nx.g.c) := kb.cell 26
 have k27 : W0.cell? ⟨w.heap.size, 27, none⟩ = some (.slice nx.e.a nx.e.n nx.e.c) := kb.cell 27
 have k28 : W0.cell? ⟨w.heap.size, 28, none⟩ = some (.slice nx.k.a nx.k.n nx.k.c) := kb.cell 28
 have D1 := hide (implHeaderFault_any nx n W0 o.on.ok o.mn)
 unfold hvals at D1
 have HBB := hide bb
 have E0 := hide e0
 clear bb e0 kb o
 unfold stvals at E0 ⊢
 go_enter Tryz.func33, Tryz.ntmps33
 go_upto_region 1 with fail
 rw [unhide E0]
 clear E0
 go_wp2_with fail
 refine (unhide D1).mono ?_
 rintro r w1 ⟨rfl, b1⟩
 go_wp2_with fail
 go_ret
 exact ⟨rfl, (unhide HBB).trans (b1.mono (unhide HBB).size)⟩

set_option maxHeartbeats 2000000 in
theorem numberRule_any (c : Cf) (e : SnS) (x : Sn) (px : HS) (p : Hd) (nx : HS) (n : Hd) (w : World) (o : StOk w e x px p nx n) (hx : 0 ≤ x.1 ∧ x.1 ≤ 1099511627776) :
    Calls Tryz.prog 34 #[.agg (stvals c e x px p nx n)] w fun r w' => r = .returned (.int .i64 (unl (n.n1 == x.1 + 1) 3)) ∧ Below w.heap.size w w' := by
 have kb := SBlk.new w (stvals c e x px p nx n) 73
 have bb := below_alloc w (.cells (stvals c e x px p nx n) 73)
 obtain ⟨W0, e0⟩ : ∃ W, w.alloc (.cells (stvals c e x px p nx n) 73) = W := ⟨_, rfl⟩
 rw [e0] at kb bb
 replace o := o.below bb (Nat.le_refl _)
 have k3 : W0.cell? ⟨w.heap.size, 3, none⟩ = some (.int .i64 x.1) := kb.cell 3
 have k19 : W0.cell? ⟨w.heap.size, 19, none⟩ = some (.int .i64 n.n1) := kb.cell 19
 have hw : IntKind.i64.wrap (x.1 + 1) = x.1 + 1 := by rw [IntKind.wrap_i64]; omega
 have DU := hide (fun W => codeUnless_any (n.n1 == x.1 + 1) 3 W)
 have HBB := hide bb
 have E0 := hide e0
 clear bb e0 kb o
 unfold stvals at E0 ⊢
 go_enter Tryz.func34, Tryz.ntmps34
 go_upto_region 1 with fail
 rw [unhide E0]
 clear E0
 go_wp2_with fail
 refine ((unhide DU) _).mono ?_
 rintro r w9 ⟨rfl, rfl⟩
 go_wp2_with fail
 go_ret
 exact ⟨rfl, unhide HBB⟩

set_option maxHeartbeats 2000000 in
theorem hasSigner_any (c : Cf) (e : SnS) (x : Sn) (px : HS) (p : Hd) (nx : HS) (n : Hd) (w : World) (o : StOk w e x px p nx n) (hx : snFlt x = 0) :
    Calls Tryz.prog 67 #[.agg (stvals c e x px p nx n)] w fun r w' => r = .returned (.bool (decide (n.g ∈ x.2.1))) ∧ Below w.heap.size w w' := by
 have kb := SBlk.new w (stvals c e x px p nx n) 73
 have bb := below_alloc w (.cells (stvals c e x px p nx n) 73)
 obtain ⟨W0, e0⟩ : ∃ W, w.alloc (.cells (stvals c e x px p nx n) 73) = W := ⟨_, rfl⟩
 rw [e0] at kb bb
 replace o := o.below bb (Nat.le_refl _)
 have k4 : W0.cell? ⟨w.heap.size, 4, none⟩ = some (.slice e.2.1.a e.2.1.n e.2.1.c) := kb.cell 4
 have k26 : W0.cell? ⟨w.heap.size, 26, none⟩ = some (.slice nx.g.a nx.g.n nx.g.c) := kb.cell 26
 have D1 := hide (isAmong_any e.2.1 nx.g x.2.1 n.g W0 o.os.2.1 o.on.g (snFlt_sg hx).1)
 have HBB := hide bb
 have E0 := hide e0
 clear bb e0 kb o
 unfold stvals at E0 ⊢
 go_enter Tryz.func67, Tryz.ntmps67
 go_upto_region 1 with fail
 rw [unhide E0]
 clear E0
 go_wp2_with fail
 refine (unhide D1).mono ?_
 rintro r w1 ⟨rfl, rfl⟩
 go_wp2_with fail
 go_ret
 exact ⟨rfl, unhide HBB⟩

theorem stLoad (c : Cf) (e : SnS) (x : Sn) (px : HS) (p : Hd) (nx : HS) (n : Hd) (W : World) (g : Nat) (kb : SBlk W g (stvals c e x px p nx n).toList 73) : (Instr.loadAt 73 (.pointer (some ⟨g, 0, none⟩))).run Tryz.prog W = .ok (.agg (stvals c e x px p nx n)) W :=
 run_loadAt_mid (P := Tryz.prog) W g 0 73 (stvals c e x px p nx n).toList _ (srange kb) Tryz.underlying73 rfl (by kernel_rfl)

set_option maxHeartbeats 2000000 in
theorem knownRule_any (c : Cf) (e : SnS) (x : Sn) (px : HS) (p : Hd) (nx : HS) (n : Hd) (w : World) (o : StOk w e x px p nx n) (hx : snFlt x = 0) :
    Calls Tryz.prog 35 #[.agg (stvals c e x px p nx n)] w fun r w' => r = .returned (.int .i64 (unl (decide (n.g ∈ x.2.1)) 4)) ∧ Below w.heap.size w w' := by
 have kb := SBlk.new w (stvals c e x px p nx n) 73
 have bb := below_alloc w (.cells (stvals c e x px p nx n) 73)
 obtain ⟨W0, e0⟩ : ∃ W, w.alloc (.cells (stvals c e x px p nx n) 73) = W := ⟨_, rfl⟩
 rw [e0] at kb bb
 replace o := o.below bb (Nat.le_refl _)
 have HLD := hide (stLoad c e x px p nx n W0 w.heap.size kb)
 have D1 := hide (hasSigner_any c e x px p nx n W0 o hx)
 have DU := hide (fun W => codeUnless_any (decide (n.g ∈ x.2.1)) 4 W)
 have HBB := hide bb
 have E0 := hide e0
 clear bb e0 kb o
 generalize stvals c e x px p nx n = V at HLD D1 E0 ⊢
 go_enter Tryz.func35, Tryz.ntmps35
 go_upto_region 1 with fail
 rw [unhide E0]
 clear E0
 go_wp2_with (refine wpList_load_eq rfl 73 _ rfl _ _ rfl (unhide HLD) ?_)
 refine (unhide D1).mono ?_
 rintro r w1 ⟨rfl, b1⟩
 go_wp2_with fail
 refine ((unhide DU) _).mono ?_
 rintro r w9 ⟨rfl, rfl⟩
 go_wp2_with fail
 go_ret
 exact ⟨rfl, (unhide HBB).trans (b1.mono (unhide HBB).size)⟩

set_option maxRecDepth 100000

theorem fnz_drop (ks : List Int) (i : Nat) (k : Int) (h : ks[i]? = some k) : fnz (ks.drop i) = if k = 0 then fnz (ks.drop (i + 1)) else k := by
 obtain ⟨hk, e⟩ := List.getElem?_eq_some_iff.1 h
 rw [List.drop_eq_getElem_cons hk, e]
 rfl

set_option maxHeartbeats 4000000 in
theorem firstBroken_any (c : Cf) (e : SnS) (x : Sn) (px : HS) (p : Hd) (nx : HS) (n : Hd) (fs : List Nat) (ks : List Int) (b off cap : Nat) (w : World)
    (hr : ∀ (i f : Nat), fs[i]? = some f → w.cell? ⟨b, off + i, none⟩ = some (.func (.func f) #[] #[])) (hb : b < w.heap.size) (hl : ks.length = fs.length) (hl2 : fs.length ≤ 100) (EN : ∀ f ∈ fs, ∀ (V : Value) (W : World), (callFunc f #[V]).run Tryz.prog W = .ok (.enter f #[V]) W)
    (H : ∀ (i : Nat) (f : Nat) (k : Int), fs[i]? = some f → ks[i]? = some k → (∀ j, j < i → ks[j]? = some 0) → ∀ W, Below w.heap.size w W → Calls Tryz.prog f #[.agg (stvals c e x px p nx n)] W fun r w' => r = .returned (.int .i64 k) ∧ Below W.heap.size W w') :
    Calls Tryz.prog 36 #[.agg (stvals c e x px p nx n), .slice (some ⟨b, off, none⟩) fs.length cap] w fun r w' => r = .returned (.int .i64 (fnz ks)) ∧ Below w.heap.size w w' := by
 have kb := SBlk.new w (stvals c e x px p nx n) 73
 have bb := below_alloc w (.cells (stvals c e x px p nx n) 73)
 obtain ⟨W0, e0⟩ : ∃ W, w.alloc (.cells (stvals c e x px p nx n) 73) = W := ⟨_, rfl⟩
 rw [e0] at kb bb
 have HLD := hide (fun (W : World) (hb : Below W0.heap.size W0 W) => stLoad c e x px p nx n W w.heap.size (kb.below hb kb.lt))
 have HR : Hid (∀ W, Below W0.heap.size W0 W → ∀ (i f : Nat), fs[i]? = some f → W.cell? ⟨b, off + i, none⟩ = some (.func (.func f) #[] #[])) := fun W hw i f hi => (((bb.trans (hw.mono bb.size)).cell (p := ⟨b, off + i, none⟩) hb).trans (hr i f hi))
 have HH : Hid (∀ (i : Nat) (f : Nat) (k : Int), fs[i]? = some f → ks[i]? = some k → (∀ j, j < i → ks[j]? = some 0) → ∀ W, Below W0.heap.size W0 W → Calls Tryz.prog f #[.agg (stvals c e x px p nx n)] W fun r w' => r = .returned (.int .i64 k) ∧ Below W.heap.size W w') := fun i f k h1 h2 h3 W hw => H i f k h1 h2 h3 W (bb.trans (hw.mono bb.size))
 have HD := hide (fnz_drop ks)
 have HF : Hid (fnz ks = fnz (ks.drop 0)) := rfl
 have HE : Hid (∀ i, ks.length ≤ i → fnz (ks.drop i) = 0) := fun i hi => by rw [List.drop_eq_nil_of_le hi]; rfl
 have HEN := hide EN
 have HBB := hide bb
 have E0 := hide e0
 clear bb e0 kb hr hb H EN
 generalize stvals c e x px p nx n = V at HLD HH E0 ⊢
 generalize fnz ks = R at HF ⊢
 obtain ⟨len, hlen⟩ : ∃ len, len = fs.length := ⟨_, rfl⟩
 rw [← hlen] at hl hl2 ⊢
 have HLEN := hide hlen
 have HL := hide hl
 clear hlen hl
 go_enter Tryz.func36, Tryz.ntmps36
 go_upto_region 1 with fail
 rw [unhide E0]
 clear E0
 go_wp2_with fail
 go_loopw [10] (fun i wr => ∃ (k : Nat), k ≤ len ∧ i = .int .i64 k ∧ R = fnz (ks.drop k) ∧ (∀ j, j < k → ks[j]? = some 0) ∧ Below W0.heap.size W0 wr) (fun i _ => len - (intOf i).toNat)
 case atStart => exact ⟨0, Nat.zero_le _, rfl, unhide HF, fun j hj => absurd hj (Nat.not_lt_zero _), Below.refl _ _⟩
 case round =>
  obtain ⟨k, hk, rfl, hR, hz, hbr⟩ := hrel
  clear HF
  by_cases hlt : k < len
  · obtain ⟨f, hf⟩ : ∃ f, fs[k]? = some f := ⟨_, List.getElem?_eq_getElem (by rw [← unhide HLEN]; exact hlt)⟩
    obtain ⟨q, hq⟩ : ∃ q, ks[k]? = some q := ⟨_, List.getElem?_eq_getElem (by rw [unhide HL]; exact hlt)⟩
    have c0 := (unhide HR) wr hbr k f hf
    have hent := (unhide HEN) f (List.mem_of_getElem? hf) (.agg V) wr
    have D1 := hide ((unhide HH) k f q hf hq hz wr hbr)
    have HL1 := hide ((unhide HLD) wr hbr)
    have hs := (unhide HD) k q hq
    rw [hs] at hR
    have HRR := hide hR
    have HZ := hide hz
    have HQ := hide hq
    have HB := hide hbr
    have k1 : (0 : Int) ≤ (k : Int) := by omega
    have k2 : (k : Int) < (len : Int) := by omega
    clear hR hz hbr hs hf hq
    by_cases h0 : q = 0
    · subst h0
      have h1 : ((0 : Int) != 0) = false := by simp
      go_wp2_with (refine wpList_load_eq rfl 73 _ rfl _ _ rfl (unhide HL1) ?_)
      refine (unhide D1).mono ?_
      rintro r w2 ⟨rfl, b2⟩
      have HB2 := hide (bStep (unhide HB) b2)
      clear b2
      go_wp2_with fail
      go_roundw
      case rel =>
       exact ⟨k + 1, by omega, by go_num, by have := unhide HRR; simpa using this, fun j hj => by
        by_cases hjk : j < k
        · exact (unhide HZ) j hjk
        · obtain rfl : j = k := by omega
          exact unhide HQ, unhide HB2⟩
      case measure => simp [intOf]; omega
    · have h1 : (q != 0) = true := by simp [h0]
      have HRQ : Hid (R = q) := by show R = q; rw [unhide HRR, if_neg h0]
      clear h0
      go_wp2_with (refine wpList_load_eq rfl 73 _ rfl _ _ rfl (unhide HL1) ?_)
      refine (unhide D1).mono ?_
      rintro r w2 ⟨rfl, b2⟩
      have HB2 := hide (bStep (unhide HB) b2)
      clear b2
      go_wp2_with fail
      go_ret
      exact ⟨by rw [unhide HRQ]; rfl, (unhide HBB).trans ((unhide HB2).mono (unhide HBB).size)⟩
  · obtain rfl : k = len := by omega
    have hRz : R = 0 := by rw [hR]; exact (unhide HE) k (by rw [unhide HL]; exact Nat.le_refl _)
    have HRZ := hide hRz
    have HB := hide hbr
    clear hR hz hbr hRz
    go_wp2_with fail
    go_ret
    exact ⟨by rw [unhide HRZ]; rfl, (unhide HBB).trans ((unhide HB).mono (unhide HBB).size)⟩

end Go.Proofs.YtdmcmlcmgbbclaaGreat
