/- What is proved here: the contract of the laws' helper function szHeader: what it leaves is below 0, or the header is small. -/
import Derived.Test.YtdmcmlcmgbbclaaGreatChecked
import Derived.Test.YtdmcmlcmgbbclaaGreatJ3
import Derived.WalkKit
import Derived.WalkLawsBesides
import Derived.WalkSmall
import Derived.Deep.DeepCutAuto
import Derived.KernelRfl
import Derived.WalkSpells
import Derived.Test.YtdmcmlcmgbbclaaGreatJ1
namespace Go.Proofs.YtdmcmlcmgbbclaaGreat
set_option linter.unusedVariables false
set_option linter.unusedSimpArgs false
open Go.RowKit
set_option maxRecDepth 100000

theorem szB1_to (a : Option Addr) (n cap : Nat) (left L : Int) (w : World) (h0 : 0 ≤ left) (h1 : left ≤ 1099511627776) (hn : n ≤ maxLen) (e : L = if left - n < 0 then -1 else left - n) :
    Calls Tryz.prog 21 #[.slice a n cap, .int .i64 left] w fun e w' => e = .returned (.int .i64 L) ∧ w' = w := by
 subst e; exact szB1_any a n cap left w h0 h1 hn

theorem szBss_to (a : Option Addr) (len cap : Nat) (zss : List (List Int)) (left L : Int) (w : World) (h : BsRow w a len zss) (hl : len ≤ maxLen) (h0 : 0 ≤ left) (h1 : left ≤ 1099511627776) (e : L = szBss left zss) :
    Calls Tryz.prog 18 #[.slice a len cap, .int .i64 left] w fun e w' => e = .returned (.int .i64 L) ∧ w' = w := by
 subst e; exact szByteSS_any a len cap zss left w h hl h0 h1

/-- All bytes of some slices, and of a header. -/
def bsum (zss : List (List Int)) : Nat := (zss.map List.length).sum

theorem szBs_eq (zss : List (List Int)) : ∀ left, 0 ≤ szBs left zss → szBs left zss = left - bsum zss := by
 induction zss with
 | nil => intro left _; simp [szBs, bsum]
 | cons z r ih =>
  intro left h
  unfold szBs at h ⊢
  split at h
  · omega
  · rename_i hn
    rw [if_neg hn, ih _ h]
    simp [bsum]
    omega

theorem szBss_eq {left : Int} {zss : List (List Int)} (h : 0 ≤ szBss left zss) : szBss left zss = left - zss.length - bsum zss := by
 unfold szBss at h ⊢
 split at h
 · omega
 · rename_i hn
   rw [if_neg hn]
   exact szBs_eq zss _ h

def hTot (h : Hd) : Nat := h.p.length + h.t.length + bsum h.s + h.r.length + h.g.length + h.e.length + bsum h.k

set_option maxHeartbeats 4000000 in
theorem szHeader_tot (x : HS) (h : Hd) (L0 : Int) (w : World) (o : HOk w x h) (m : HMax x maxLen) (h0 : 0 ≤ L0) (h1 : L0 ≤ 1048576) :
    Calls Tryz.prog 5 #[.agg (hvals x h), .int .i64 L0] w fun e w' => (∃ r : Int, e = .returned (.int .i64 r) ∧ -1 ≤ r ∧ r ≤ L0 ∧ (0 ≤ r → HSm h ∧ (hTot h : Int) ≤ L0)) ∧ Below w.heap.size w w' := by
 have HB := hide (below_alloc w (.cells (hvals x h) 31))
 have HO := hide (fun (W : World) (hb : Below w.heap.size w W) => o.below hb (Nat.le_refl _))
 have HN := hide o
 unfold hvals at HB ⊢
 clear o
 go_enter Tryz.func5, Tryz.ntmps5
 obtain ⟨L1, e1⟩ : ∃ L : Int, L = if L0 - x.p.n < 0 then -1 else L0 - x.p.n := ⟨_, rfl⟩
 have C1 := hide (fun (W : World) (hb : Below w.heap.size w W) => szB1_to x.p.a x.p.n x.p.c L0 L1 W (by omega) (by omega) m.p e1)
 have E1 := hide e1
 clear e1
 go_wp2_with fail
 refine ((unhide C1) _ (unhide HB)).mono ?_
 rintro e w' ⟨rfl, rfl⟩
 clear C1
 by_cases t1 : L1 < 0
 · have d : decide (L1 < 0) = true := decide_eq_true t1
   go_wp2_with fail
   go_ret
   exact ⟨⟨-1, rfl, by omega, by omega, fun hh => by omega⟩, unhide HB⟩
 have d1 : decide (L1 < 0) = false := decide_eq_false t1
 have G1 : Hid (L1 = L0 - x.p.n) := by
  show _ = _
  have := unhide E1
  split at this <;> omega
 have f1 : (x.p.n : Int) ≤ 1048576 ∧ L1 ≤ L0 := by
  have := unhide E1
  split at this <;> omega
 clear E1
 obtain ⟨L2, e2⟩ : ∃ L : Int, L = if L1 - x.t.n < 0 then -1 else L1 - x.t.n := ⟨_, rfl⟩
 have C2 := hide (fun (W : World) (hb : Below w.heap.size w W) => szB1_to x.t.a x.t.n x.t.c L1 L2 W (by omega) (by omega) m.t e2)
 have E2 := hide e2
 clear e2
 go_wp2_with fail
 refine ((unhide C2) _ (unhide HB)).mono ?_
 rintro e w' ⟨rfl, rfl⟩
 clear C2
 by_cases t2 : L2 < 0
 · have d : decide (L2 < 0) = true := decide_eq_true t2
   go_wp2_with fail
   go_ret
   exact ⟨⟨-1, rfl, by omega, by omega, fun hh => by omega⟩, unhide HB⟩
 have d2 : decide (L2 < 0) = false := decide_eq_false t2
 have G2 : Hid (L2 = L1 - x.t.n) := by
  show _ = _
  have := unhide E2
  split at this <;> omega
 have f2 : (x.t.n : Int) ≤ 1048576 ∧ L2 ≤ L1 := by
  have := unhide E2
  split at this <;> omega
 clear E2
 obtain ⟨L3, e3⟩ : ∃ L : Int, L = szBss L2 h.s := ⟨_, rfl⟩
 have C3 := hide (fun (W : World) (hb : Below w.heap.size w W) => szBss_to x.s.a x.s.n x.s.c h.s L2 L3 W ((unhide HO) W hb).s m.s (by omega) (by omega) e3)
 have E3 := hide e3
 clear e3
 go_wp2_with fail
 refine ((unhide C3) _ (unhide HB)).mono ?_
 rintro e w' ⟨rfl, rfl⟩
 clear C3
 by_cases t3 : L3 < 0
 · have d : decide (L3 < 0) = true := decide_eq_true t3
   go_wp2_with fail
   go_ret
   exact ⟨⟨-1, rfl, by omega, by omega, fun hh => by omega⟩, unhide HB⟩
 have d3 : decide (L3 < 0) = false := decide_eq_false t3
 have f3 : L3 ≤ L2 := by rw [unhide E3]; exact szBss_le _ (by omega)
 have F3 := hide (szBss_ok (left := L2) (zss := h.s) (by rw [← unhide E3]; omega))
 have G3 : Hid (L3 = L2 - h.s.length - bsum h.s) := by show _ = _; rw [unhide E3]; exact szBss_eq (by rw [← unhide E3]; omega)
 clear E3
 obtain ⟨L4, e4⟩ : ∃ L : Int, L = if L3 - x.r.n < 0 then -1 else L3 - x.r.n := ⟨_, rfl⟩
 have C4 := hide (fun (W : World) (hb : Below w.heap.size w W) => szB1_to x.r.a x.r.n x.r.c L3 L4 W (by omega) (by omega) m.r e4)
 have E4 := hide e4
 clear e4
 go_wp2_with fail
 refine ((unhide C4) _ (unhide HB)).mono ?_
 rintro e w' ⟨rfl, rfl⟩
 clear C4
 by_cases t4 : L4 < 0
 · have d : decide (L4 < 0) = true := decide_eq_true t4
   go_wp2_with fail
   go_ret
   exact ⟨⟨-1, rfl, by omega, by omega, fun hh => by omega⟩, unhide HB⟩
 have d4 : decide (L4 < 0) = false := decide_eq_false t4
 have G4 : Hid (L4 = L3 - x.r.n) := by
  show _ = _
  have := unhide E4
  split at this <;> omega
 have f4 : (x.r.n : Int) ≤ 1048576 ∧ L4 ≤ L3 := by
  have := unhide E4
  split at this <;> omega
 clear E4
 obtain ⟨L5, e5⟩ : ∃ L : Int, L = if L4 - x.g.n < 0 then -1 else L4 - x.g.n := ⟨_, rfl⟩
 have C5 := hide (fun (W : World) (hb : Below w.heap.size w W) => szB1_to x.g.a x.g.n x.g.c L4 L5 W (by omega) (by omega) m.g e5)
 have E5 := hide e5
 clear e5
 go_wp2_with fail
 refine ((unhide C5) _ (unhide HB)).mono ?_
 rintro e w' ⟨rfl, rfl⟩
 clear C5
 by_cases t5 : L5 < 0
 · have d : decide (L5 < 0) = true := decide_eq_true t5
   go_wp2_with fail
   go_ret
   exact ⟨⟨-1, rfl, by omega, by omega, fun hh => by omega⟩, unhide HB⟩
 have d5 : decide (L5 < 0) = false := decide_eq_false t5
 have G5 : Hid (L5 = L4 - x.g.n) := by
  show _ = _
  have := unhide E5
  split at this <;> omega
 have f5 : (x.g.n : Int) ≤ 1048576 ∧ L5 ≤ L4 := by
  have := unhide E5
  split at this <;> omega
 clear E5
 obtain ⟨L6, e6⟩ : ∃ L : Int, L = if L5 - x.e.n < 0 then -1 else L5 - x.e.n := ⟨_, rfl⟩
 have C6 := hide (fun (W : World) (hb : Below w.heap.size w W) => szB1_to x.e.a x.e.n x.e.c L5 L6 W (by omega) (by omega) m.e e6)
 have E6 := hide e6
 clear e6
 go_wp2_with fail
 refine ((unhide C6) _ (unhide HB)).mono ?_
 rintro e w' ⟨rfl, rfl⟩
 clear C6
 by_cases t6 : L6 < 0
 · have d : decide (L6 < 0) = true := decide_eq_true t6
   go_wp2_with fail
   go_ret
   exact ⟨⟨-1, rfl, by omega, by omega, fun hh => by omega⟩, unhide HB⟩
 have d6 : decide (L6 < 0) = false := decide_eq_false t6
 have G6 : Hid (L6 = L5 - x.e.n) := by
  show _ = _
  have := unhide E6
  split at this <;> omega
 have f6 : (x.e.n : Int) ≤ 1048576 ∧ L6 ≤ L5 := by
  have := unhide E6
  split at this <;> omega
 clear E6
 obtain ⟨L7, e7⟩ : ∃ L : Int, L = szBss L6 h.k := ⟨_, rfl⟩
 have C7 := hide (fun (W : World) (hb : Below w.heap.size w W) => szBss_to x.k.a x.k.n x.k.c h.k L6 L7 W ((unhide HO) W hb).k m.k (by omega) (by omega) e7)
 have E7 := hide e7
 clear e7
 go_wp2_with fail
 refine ((unhide C7) _ (unhide HB)).mono ?_
 rintro e w' ⟨rfl, rfl⟩
 clear C7
 by_cases t7 : L7 < 0
 · have d : decide (L7 < 0) = true := decide_eq_true t7
   go_wp2_with fail
   go_ret
   exact ⟨⟨-1, rfl, by omega, by omega, fun hh => by omega⟩, unhide HB⟩
 have d7 : decide (L7 < 0) = false := decide_eq_false t7
 have f7 : L7 ≤ L6 := by rw [unhide E7]; exact szBss_le _ (by omega)
 have F7 := hide (szBss_ok (left := L6) (zss := h.k) (by rw [← unhide E7]; omega))
 have G7 : Hid (L7 = L6 - h.k.length - bsum h.k) := by show _ = _; rw [unhide E7]; exact szBss_eq (by rw [← unhide E7]; omega)
 clear E7
 go_wp2_with fail
 go_ret
 refine ⟨⟨L7, rfl, by omega, by omega, fun _ => ?_⟩, unhide HB⟩
 have o := unhide HN
 obtain ⟨u3, v3⟩ := unhide F3
 obtain ⟨u7, v7⟩ := unhide F7
 refine ⟨?_, by have q1 := o.p.1; have e1 := unhide G1; have e2 := unhide G2; have e3 := unhide G3; have e4 := unhide G4; have e5 := unhide G5; have e6 := unhide G6; have e7 := unhide G7; have q2 := o.t.1; have q3 := o.r.1; have q4 := o.g.1; have q5 := o.e.1; unfold hTot; omega⟩
 exact ⟨by rw [o.p.1]; omega, by rw [o.t.1]; omega, by omega, fun z hz => by have := v3 z hz; omega, by rw [o.r.1]; omega, by rw [o.g.1]; omega, by rw [o.e.1]; omega, by omega, fun z hz => by have := v7 z hz; omega⟩

set_option maxRecDepth 100000

set_option maxHeartbeats 1000000 in
theorem markByteS_any (B g n cap : Nat) (zs : List Int) (k0 : Int) (w : World) (h : w.ownsRow B 5 1 (.slice (some ⟨g, 0, none⟩) n cap) n (zs.map (Value.int .u8))) (hn : n ≤ 2097152) (hk0 : 0 ≤ k0) (hk1 : k0 ≤ 1099511627776) :
    Calls Tryz.prog 46 #[.slice (some ⟨g, 0, none⟩) n cap, .int .i64 k0] w fun e w' => e = .returned (.int .i64 (k0 + n)) ∧
     w'.ownsRow B 5 1 (.slice (some ⟨g, 0, none⟩) n cap) n ((marks k0 n).map (Value.int .u8)) ∧ w.grownBy w' (some g) := by
 have hzl : zs.length = n := by simpa using h.1
 go_enter Tryz.func46, Tryz.ntmps46
 go_wp2
 go_loopw [1, 5] (fun q i wr => ∃ k : Nat, k ≤ n ∧ i = .int .i64 k ∧ q = .int .i64 (k0 + k) ∧ wr.ownsRow B 5 1 (.slice (some ⟨g, 0, none⟩) n cap) n ((marks k0 k ++ zs.drop k).map (Value.int .u8)) ∧ w.grownBy wr (some g))
  (fun _ i _ => n - (intOf i).toNat)
 case atStart => exact ⟨0, Nat.zero_le _, rfl, by simp, by simpa [marks] using h, grownBy_refl w _⟩
 case round =>
  obtain ⟨k, hk, rfl, rfl, hown, hgr⟩ := hrel
  by_cases hlt : k < n
  · have hfz := hown.frozenAt k
    obtain ⟨u, hu⟩ : ∃ u, wr.cell? ⟨g, k, none⟩ = some u := by
     rw [hown.cellAt k (by omega)]
     exact ⟨_, List.getElem?_eq_getElem (by rw [hown.1]; omega)⟩
    have R := hown.stored k (.int .u8 ((k0 + k) % 256))
    rw [mark_step k0 zs n k hzl hlt] at R
    have HR := R.1
    have HG := grownBy_trans hgr R.2
    clear R hown
    go_wp2
    go_roundw
    case rel => exact ⟨k + 1, by omega, by go_num, by go_num, HR, HG⟩
    case measure => simp [intOf]; omega
  · obtain rfl : k = n := by omega
    rw [List.drop_eq_nil_of_le (by omega), List.append_nil] at hown
    go_wp2
    go_ret
    exact ⟨rfl, hown, hgr⟩

set_option maxHeartbeats 1000000 in
theorem markByteS_nil (k0 : Int) (w : World) :
    Calls Tryz.prog 46 #[.slice none 0 0, .int .i64 k0] w fun e w' => e = .returned (.int .i64 k0) ∧ w' = w := by
 go_enter Tryz.func46, Tryz.ntmps46
 go_wp2
 refine wp_loop_rounds 1 ?_
 rw [rounds_succ]
 go_wp2
 go_ret
 exact ⟨rfl, rfl⟩

theorem markByteS_own (B n cap : Nat) (a : Option Addr) (zs : List Int) (k0 : Int) (w : World) (h : w.ownsRow B 5 1 (.slice a n cap) n (zs.map (Value.int .u8))) (hn : n ≤ 2097152) (hk0 : 0 ≤ k0) (hk1 : k0 ≤ 1099511627776) :
    Calls Tryz.prog 46 #[.slice a n cap, .int .i64 k0] w fun e w' => e = .returned (.int .i64 (k0 + n)) ∧
     w'.ownsRow B 5 1 (.slice a n cap) n ((marks k0 n).map (Value.int .u8)) ∧ w.grownBy w' (Value.slice a n cap).ownBlock := by
 rcases h.2 with ⟨h', h0⟩ | ⟨g, cap', cur, h', _⟩
 · simp only [Value.slice.injEq] at h'
   obtain ⟨rfl, rfl, rfl⟩ := h'
   refine (markByteS_nil k0 w).mono fun e w' hq => ?_
   obtain ⟨rfl, rfl⟩ := hq
   exact ⟨by simp, World.ownsRow_nil _ _ _ _, grownBy_refl _ _⟩
 · simp only [Value.slice.injEq] at h'
   obtain ⟨rfl, _, rfl⟩ := h'
   exact markByteS_any B g n cap zs k0 w h hn hk0 hk1

set_option maxHeartbeats 1000000 in
theorem heldByteS_any (n cap : Nat) (a : Option Addr) (k0 : Int) (w : World) (h : BRow w a n (marks k0 n)) (hn : n ≤ 2097152) (hk0 : 0 ≤ k0) (hk1 : k0 ≤ 1099511627776) :
    Calls Tryz.prog 115 #[.slice a n cap, .int .i64 k0] w fun e w' => e = .returned (.int .i64 (k0 + n)) ∧ w' = w := by
 rcases Nat.eq_zero_or_pos n with h0 | hp
 · subst h0
   clear h
   go_enter Tryz.func115, Tryz.ntmps115
   go_wp2
   refine wp_loop_rounds 1 ?_
   rw [rounds_succ]
   go_wp2
   go_ret
   exact ⟨ret_int (by simp), rfl⟩
 · obtain ⟨b, off, rfl, hb, hc⟩ := h.at hp
   have HC := hide hc
   clear h hc
   go_enter Tryz.func115, Tryz.ntmps115
   go_wp2
   go_loop [1, 5] (fun q i => ∃ k : Nat, k ≤ n ∧ i = .int .i64 k ∧ q = .int .i64 (k0 + k)) (fun _ i => n - (intOf i).toNat)
   case atStart => exact ⟨0, Nat.zero_le _, rfl, by simp⟩
   case round =>
    obtain ⟨k, hk, rfl, rfl⟩ := hrel
    by_cases hlt : k < n
    · have hck := (unhide HC) k hlt
      rw [marks_at k0 n k hlt] at hck
      have hne : ((k0 + (k : Int)) % 256 != (k0 + (k : Int)) % 256) = false := by simp
      go_wp2
      go_round
      case rel => exact ⟨k + 1, by omega, by go_num, by go_num⟩
      case measure => simp [intOf]; omega
    · obtain rfl : k = n := by omega
      go_wp2
      go_ret
      exact ⟨rfl, rfl⟩

set_option maxRecDepth 100000

theorem own_grown {w w' : World} {B : Nat} {e : TypeId} {size n : Nat} {v : Value} {xs : List Value} {row : Option Nat} (h : w.ownsRow B e size v n xs) (hg : w.grownBy w' row) (hne : ∀ g, v.ownBlock = some g → some g ≠ row) : w'.ownsRow B e size v n xs := by
 refine ⟨h.1, ?_⟩
 rcases h.2 with h' | ⟨g, cap, cur, h1, h2, h3, h4⟩
 · exact .inl h'
 · refine .inr ⟨g, cap, cur, h1, h2, ?_, h4⟩
   rw [hg.block g (lt_of_block h3) (hne g (by rw [h1]; rfl))]
   exact h3

set_option maxRecDepth 100000

/-- Nothing is written below B, nor from C on. -/
def OnlyH (B C : Nat) (w w' : World) : Prop := Below B w w' ∧ ∀ k, C ≤ k → k < w.heap.size → w'.heap[k]? = w.heap[k]?

theorem OnlyH.refl (B C : Nat) (w : World) : OnlyH B C w w := ⟨Below.refl _ _, fun _ _ _ => rfl⟩

theorem OnlyH.trans {B C : Nat} {a b c : World} (h : OnlyH B C a b) (k : OnlyH B C b c) : OnlyH B C a c :=
 ⟨h.1.trans k.1, fun q hq hl => (k.2 q hq (Nat.lt_of_lt_of_le hl h.1.size)).trans (h.2 q hq hl)⟩

theorem OnlyH.mono {B B' C C' : Nat} {a b : World} (h : OnlyH B C a b) (hB : B' ≤ B) (hC : C ≤ C') : OnlyH B' C' a b := ⟨h.1.mono hB, fun q hq hl => h.2 q (by omega) hl⟩

theorem OnlyH.grown {a b : World} {g : Nat} (B : Nat) (hg : a.grownBy b (some g)) (h : Below B a b) : OnlyH B (g + 1) a b := ⟨h, fun q hq hl => hg.block q hl (fun e => by have := Option.some.inj e; omega)⟩

theorem OnlyH.cell {B C : Nat} {w w' : World} (h : OnlyH B C w w') {p : Addr} (hp : C ≤ p.block) (hl : p.block < w.heap.size) : w'.cell? p = w.cell? p := World.cell?_of_block (w := w) (h.2 p.block hp hl)

theorem OnlyH.own {B C D : Nat} {w w' : World} (h : OnlyH B C w w') {e : TypeId} {size n : Nat} {v : Value} {xs : List Value} (ho : w.ownsRow D e size v n xs) (hD : C ≤ D) : w'.ownsRow D e size v n xs := by
 refine ⟨ho.1, ?_⟩
 rcases ho.2 with h' | ⟨g, cap, cur, h1, h2, h3, h4⟩
 · exact .inl h'
 · exact .inr ⟨g, cap, cur, h1, h2, (h.2 g (by omega) (lt_of_block h3)).trans h3, h4⟩

theorem OnlyH.sblk {B C : Nat} {w w' : World} (h : OnlyH B C w w') {g : Nat} {vs : List Value} {T : TypeId} (hs : SBlk w g vs T) (hg : C ≤ g) : SBlk w' g vs T := (h.2 g hg hs.lt).trans hs

/-- One slice of bytes is marked. -/
theorem markB_only (g n : Nat) (zs : List Int) (k0 : Int) (w : World) (h : w.ownsRow g 5 1 (.slice (some ⟨g, 0, none⟩) n n) n (zs.map (Value.int .u8))) (hn : n ≤ 1048576) (hk0 : 0 ≤ k0) (hk1 : k0 ≤ 1099511627776) :
    Calls Tryz.prog 46 #[.slice (some ⟨g, 0, none⟩) n n, .int .i64 k0] w fun e w' => e = .returned (.int .i64 (k0 + n)) ∧ OnlyH g (g + 1) w w' :=
 (markByteS_any g g n n zs k0 w h (by omega) hk0 hk1).mono fun e w' ⟨he, _, hg⟩ => ⟨he, OnlyH.grown g hg ((Below.refl g w).grown hg (by have := (h.lt g rfl).2; omega) (fun k e => by have := Option.some.inj e; omega))⟩

/-- Slices of slices of bytes: those from k on are as they were. -/
def MBs (w : World) (g : Nat) (zss : List (List Int)) (k : Nat) (T : TypeId) (C : Nat) : Prop :=
 ∃ (vs : List Value) (f : Nat → Nat), SBlk w g vs T ∧ vs.length = zss.length ∧ (∀ i, i < zss.length → g < f i ∧ f i < C) ∧ (∀ i j, i < j → j < zss.length → f i < f j) ∧
  ∀ i z, k ≤ i → zss[i]? = some z → vs[i]? = some (.slice (some ⟨f i, 0, none⟩) z.length z.length) ∧ w.ownsRow (g + 1) 5 1 (.slice (some ⟨f i, 0, none⟩) z.length z.length) z.length (z.map (Value.int .u8))

theorem OBss.mbs {w : World} {g : Nat} {zss : List (List Int)} {T : TypeId} {C : Nat} (h : OBss w g zss T C) : MBs w g zss 0 T C := by
 obtain ⟨vs, f, h1, h2, h3, h4, h5⟩ := h
 exact ⟨vs, f, h1, h2, h3, h4, fun i z _ hz => h5 i z (List.getElem?_eq_some_iff.1 hz).1 hz⟩

theorem bsum_snoc (zss : List (List Int)) (k : Nat) (z : List Int) (h : zss[k]? = some z) : bsum (zss.take (k + 1)) = bsum (zss.take k) + z.length := by
 obtain ⟨hk, e⟩ := List.getElem?_eq_some_iff.1 h
 unfold bsum
 rw [List.take_succ_eq_append_getElem hk, e]
 simp

theorem bsum_le (zss : List (List Int)) (k : Nat) : bsum (zss.take k) ≤ bsum zss := by
 have : zss = zss.take k ++ zss.drop k := (List.take_append_drop k zss).symm
 have e : bsum zss = bsum (zss.take k) + bsum (zss.drop k) := by
  unfold bsum
  rw [← List.sum_append, ← List.map_append, List.take_append_drop]
 omega

set_option maxHeartbeats 4000000 in
theorem markSS_any (g : Nat) (zss : List (List Int)) (T : TypeId) (C : Nat) (k0 : Int) (w : World) (h : OBss w g zss T C) (hC : g < C) (hl : zss.length ≤ 1048576) (hs : bsum zss ≤ 1048576) (hk0 : 0 ≤ k0) (hk1 : k0 ≤ 16777216) :
    Calls Tryz.prog 43 #[.slice (some ⟨g, 0, none⟩) zss.length zss.length, .int .i64 k0] w fun e w' => e = .returned (.int .i64 (k0 + bsum zss)) ∧ OnlyH (g + 1) C w w' := by
 have hm := OBss.mbs h
 have hgl : g < w.heap.size := BUpto.lt h
 clear h
 have HSN := hide (bsum_snoc zss)
 have HLE := hide (bsum_le zss)
 obtain ⟨len, hlen⟩ : ∃ len, len = zss.length := ⟨_, rfl⟩
 have HLEN := hide hlen
 rw [← hlen] at hl ⊢
 clear hlen
 have HM := hide hm
 clear hm
 go_enter Tryz.func43, Tryz.ntmps43
 go_wp2_with fail
 go_loopw [1, 5] (fun q i wr => ∃ k : Nat, k ≤ len ∧ i = .int .i64 k ∧ q = .int .i64 (k0 + (bsum (zss.take k) : Nat)) ∧ MBs wr g zss k T C ∧ OnlyH (g + 1) C w wr) (fun _ i _ => len - (intOf i).toNat)
 case atStart => exact ⟨0, Nat.zero_le _, rfl, by simp [bsum], unhide HM, OnlyH.refl _ _ _⟩
 case round =>
  obtain ⟨k, hk, rfl, rfl, hm, ho⟩ := hrel
  clear HM
  by_cases hlt : k < len
  · obtain ⟨z, hit⟩ : ∃ z, zss[k]? = some z := ⟨_, List.getElem?_eq_getElem (by rw [← unhide HLEN]; exact hlt)⟩
    obtain ⟨vs, f, h1, h2, h3, h4, h5⟩ := hm
    have hkz : k < zss.length := by rw [← unhide HLEN]; exact hlt
    obtain ⟨c0, r0⟩ := h5 k z (Nat.le_refl _) hit
    have hc := (h1.cell k).trans c0
    have hsn := (unhide HSN) k z hit
    have hle1 := (unhide HLE) (k + 1)
    have hzl : z.length ≤ 1048576 := by omega
    obtain ⟨ks, hks⟩ : ∃ ks, ks = bsum (zss.take k) := ⟨_, rfl⟩
    rw [← hks] at hsn ⊢
    have hksl : ks ≤ 1048576 := by omega
    have HC := hide (markByteS_any (g + 1) (f k) z.length z.length z (k0 + ks) wr r0 (by omega) (by omega) (by omega))
    have HST : Hid (∀ w', wr.grownBy w' (some (f k)) → MBs w' g zss (k + 1) T C ∧ OnlyH (g + 1) C w w') := fun w' hg => by
     have hfk := h3 k hkz
     have hb : Below (g + 1) wr w' := (Below.refl (g + 1) wr).grown hg (by have := h1.lt; omega) (fun q e => by have := Option.some.inj e; omega)
     refine ⟨⟨vs, f, h1.below hb (by omega), h2, h3, h4, fun i y hi hy => ?_⟩, ho.trans ⟨hb, fun q hq hl => hg.block q hl (fun e => by have := Option.some.inj e; omega)⟩⟩
     obtain ⟨q1, q2⟩ := h5 i y (by omega) hy
     have hil := (List.getElem?_eq_some_iff.1 hy).1
     have hlt2 := h4 k i (by omega) hil
     exact ⟨q1, own_grown q2 hg (fun b e e2 => by simp [Value.ownBlock] at e; have := Option.some.inj e2; omega)⟩
    have HSN2 : Hid (bsum (zss.take (k + 1)) = ks + z.length) := hsn
    have k1 : (0 : Int) ≤ (k : Int) := by omega
    have k2 : (k : Int) < (len : Int) := by omega
    generalize f k = fk at hc HC HST
    generalize z.length = zl at hc HC HSN2 hzl
    clear h1 h2 h3 h4 h5 c0 r0 hsn hle1 hit ho hks
    go_wp2_with fail
    refine (unhide HC).mono ?_
    rintro e w2 ⟨rfl, _, g2⟩
    obtain ⟨m2, o2⟩ := (unhide HST) w2 g2
    have HM2 := hide m2
    have HO2 := hide o2
    clear m2 o2 g2
    go_wp2_with fail
    go_roundw
    case rel => exact ⟨k + 1, by omega, by go_num, by rw [unhide HSN2]; congr 1; omega, unhide HM2, unhide HO2⟩
    case measure => simp [intOf]; omega
  · obtain rfl : k = len := by omega
    have et : zss.take k = zss := List.take_of_length_le (by rw [← unhide HLEN]; exact Nat.le_refl _)
    rw [et]
    have HO := hide ho
    clear hm ho et
    go_wp2_with fail
    go_ret
    exact ⟨rfl, unhide HO⟩

set_option maxRecDepth 100000

/-- None of the slices is a bare nil with some room. -/
def BsNil (w : World) (a : Option Addr) (len : Nat) : Prop := ∀ b off, a = some ⟨b, off, none⟩ → ∀ i, i < len → ∃ sa sl sc, w.cell? ⟨b, off + i, none⟩ = some (.slice sa sl sc) ∧ (sa = none → sc = 0)

theorem BsNil.below {w w' : World} {a : Option Addr} {len : Nat} (h : BsNil w a len) {B : Nat} (hb : Below B w w') (hB : w.heap.size ≤ B) : BsNil w' a len := by
 intro b off e i hi
 obtain ⟨sa, sl, sc, hc, hn⟩ := h b off e i hi
 exact ⟨sa, sl, sc, (hb.cell (Nat.lt_of_lt_of_le (lt_of_cell hc) hB)).trans hc, hn⟩

theorem OBss.nilOk {w : World} {g : Nat} {zss : List (List Int)} {T : TypeId} {C : Nat} (h : OBss w g zss T C) : BsNil w (some ⟨g, 0, none⟩) zss.length := by
 obtain ⟨vs, f, h1, h2, h3, h4, h5⟩ := h
 intro b off e i hi
 simp only [Option.some.injEq, Addr.mk.injEq, and_true] at e
 obtain ⟨rfl, rfl⟩ := e
 obtain ⟨z, hz⟩ : ∃ z, zss[i]? = some z := ⟨_, List.getElem?_eq_getElem hi⟩
 obtain ⟨q1, _⟩ := h5 i z hi hz
 exact ⟨_, _, _, by rw [Nat.zero_add, h1.cell]; exact q1, fun e => by cases e⟩

set_option maxRecDepth 100000

/-- A slice's value. -/
def Sl.v (s : Sl) : Value := .slice s.a s.n s.c

/-- Bytes in memory of their own, at or beyond B; its block has the colour j. -/
structure CB (w : World) (B : Nat) (d : Nat → Nat) (j : Nat) (s : Sl) (z : List Int) : Prop where
 len : s.n = z.length
 rng : ∀ x ∈ z, 0 ≤ x ∧ x ≤ 255
 own : w.ownsRow B 5 1 (.slice s.a s.n s.c) s.n (z.map (Value.int .u8))
 col : ∀ g, (Value.slice s.a s.n s.c).ownBlock = some g → d g = j

/-- Nothing is written below B, nor in blocks whose colour is not in S. -/
def OnlyD (B : Nat) (d : Nat → Nat) (S : Nat → Prop) (w w' : World) : Prop := Below B w w' ∧ ∀ g, g < w.heap.size → ¬ S (d g) → w'.heap[g]? = w.heap[g]?

theorem OnlyD.refl (B : Nat) (d : Nat → Nat) (S : Nat → Prop) (w : World) : OnlyD B d S w w := ⟨Below.refl _ _, fun _ _ _ => rfl⟩

theorem OnlyD.trans {B : Nat} {d : Nat → Nat} {S : Nat → Prop} {a b c : World} (h : OnlyD B d S a b) (k : OnlyD B d S b c) : OnlyD B d S a c :=
 ⟨h.1.trans k.1, fun g hg hs => (k.2 g (Nat.lt_of_lt_of_le hg h.1.size) hs).trans (h.2 g hg hs)⟩

theorem OnlyD.mono {B : Nat} {d : Nat → Nat} {S T : Nat → Prop} {a b : World} (h : OnlyD B d S a b) (hs : ∀ c, S c → T c) : OnlyD B d T a b := ⟨h.1, fun g hg ht => h.2 g hg (fun q => ht (hs _ q))⟩

theorem OnlyD.below {B C : Nat} {d : Nat → Nat} {S : Nat → Prop} {a b : World} (h : Below C a b) (hC : a.heap.size ≤ C) (hB : B ≤ C) : OnlyD B d S a b := ⟨h.mono hB, fun g hg _ => h.block g (Nat.lt_of_lt_of_le hg hC)⟩

theorem OnlyD.grown {B j : Nat} {d : Nat → Nat} {a b : World} {row : Option Nat} (hg : a.grownBy b row) (hB : B ≤ a.heap.size) (hr : ∀ g, row = some g → B ≤ g ∧ d g = j) : OnlyD B d (fun c => c = j) a b :=
 ⟨(Below.refl B a).grown hg hB (fun k e => (hr k e).1), fun g hl hs => hg.block g hl (fun e => hs (hr g e.symm).2)⟩

theorem own_keep {B D : Nat} {d : Nat → Nat} {S : Nat → Prop} {w w' : World} {e : TypeId} {size n j : Nat} {v : Value} {xs : List Value} (ho : w.ownsRow D e size v n xs) (h : OnlyD B d S w w') (hc : ∀ g, v.ownBlock = some g → d g = j) (hj : ¬ S j) : w'.ownsRow D e size v n xs := by
 refine ⟨ho.1, ?_⟩
 rcases ho.2 with h' | ⟨g, cap, cur, h1, h2, h3, h4⟩
 · exact .inl h'
 · have hd := hc g (by rw [h1]; rfl)
   exact .inr ⟨g, cap, cur, h1, h2, (h.2 g (lt_of_block h3) (by rw [hd]; exact hj)).trans h3, h4⟩

theorem own_lt {w : World} {B : Nat} {e : TypeId} {size n : Nat} {v : Value} {xs : List Value} (h : w.ownsRow B e size v n xs) (g : Nat) (hg : v.ownBlock = some g) : B ≤ g ∧ g < w.heap.size := h.lt g hg

theorem CB.only {B D j : Nat} {d : Nat → Nat} {S : Nat → Prop} {w w' : World} {s : Sl} {z : List Int} (h : CB w B d j s z) (o : OnlyD D d S w w') (hj : ¬ S j) : CB w' B d j s z := ⟨h.len, h.rng, own_keep h.own o h.col hj, h.col⟩

theorem CB.below {B C j : Nat} {d : Nat → Nat} {w w' : World} {s : Sl} {z : List Int} (h : CB w B d j s z) (hb : Below C w w') (hC : w.heap.size ≤ C) : CB w' B d j s z := ⟨h.len, h.rng, own_below h.own hb hC, h.col⟩

theorem CB.recol {B j : Nat} {d d' : Nat → Nat} {w : World} {s : Sl} {z : List Int} (h : CB w B d j s z) (hd : ∀ g, g < w.heap.size → d' g = d g) : CB w B d' j s z := ⟨h.len, h.rng, h.own, fun g hg => by rw [hd g (own_lt h.own g hg).2]; exact h.col g hg⟩

theorem CB.base {B B' j : Nat} {d : Nat → Nat} {w : World} {s : Sl} {z : List Int} (h : CB w B d j s z) (hB : B' ≤ B) : CB w B' d j s z := ⟨h.len, h.rng, ownsRow_base h.own hB, h.col⟩

theorem CB.brow {B j : Nat} {d : Nat → Nat} {w : World} {s : Sl} {z : List Int} (h : CB w B d j s z) : BRow w s.a s.n z := BRow.own2 h.own h.rng

theorem CB.nil (w : World) (B : Nat) (d : Nat → Nat) (j : Nat) : CB w B d j ⟨none, 0, 0⟩ [] := ⟨rfl, fun x hx => by simp at hx, World.ownsRow_nil _ _ _ _, fun g hg => by cases hg⟩

/-- What is made anew has any colour that one gives it. -/
theorem CB.new {w w' : World} {B j : Nat} {d : Nat → Nat} {a : Option Addr} {n c : Nat} {z : List Int} (hn : n = z.length) (hr : ∀ x ∈ z, 0 ≤ x ∧ x ≤ 255) (h : w'.ownsRow w.heap.size 5 1 (.slice a n c) n (z.map (Value.int .u8))) (hB : B ≤ w.heap.size) : CB w' B (fun g => if w.heap.size ≤ g then j else d g) j ⟨a, n, c⟩ z :=
 ⟨hn, hr, ownsRow_base h hB, fun g hg => if_pos (own_lt h g hg).1⟩

/-- A list of slices of bytes in memory of its own: its row has the colour r, its slices c, c + 3 and so on. -/
def CS (w : World) (B : Nat) (d : Nat → Nat) (r c : Nat) (s : Sl) (zss : List (List Int)) : Prop :=
 s.n = zss.length ∧ ∃ es : List Sl, es.length = zss.length ∧ w.ownsRow B 29 1 (.slice s.a s.n s.c) s.n (es.map Sl.v) ∧ (∀ g, (Value.slice s.a s.n s.c).ownBlock = some g → d g = r) ∧
  ∀ i e z, es[i]? = some e → zss[i]? = some z → CB w B d (c + 3 * i) e z

theorem CS.only {B D r c : Nat} {d : Nat → Nat} {S : Nat → Prop} {w w' : World} {s : Sl} {zss : List (List Int)} (h : CS w B d r c s zss) (o : OnlyD D d S w w') (hr : ¬ S r) (hc : ∀ i, ¬ S (c + 3 * i)) : CS w' B d r c s zss := by
 obtain ⟨h1, es, h2, h3, h4, h5⟩ := h
 exact ⟨h1, es, h2, own_keep h3 o h4 hr, h4, fun i e z he hz => (h5 i e z he hz).only o (hc i)⟩

theorem CS.below {B C r c : Nat} {d : Nat → Nat} {w w' : World} {s : Sl} {zss : List (List Int)} (h : CS w B d r c s zss) (hb : Below C w w') (hC : w.heap.size ≤ C) : CS w' B d r c s zss := by
 obtain ⟨h1, es, h2, h3, h4, h5⟩ := h
 exact ⟨h1, es, h2, own_below h3 hb hC, h4, fun i e z he hz => (h5 i e z he hz).below hb hC⟩

theorem CS.recol {B r c : Nat} {d d' : Nat → Nat} {w : World} {s : Sl} {zss : List (List Int)} (h : CS w B d r c s zss) (hd : ∀ g, g < w.heap.size → d' g = d g) : CS w B d' r c s zss := by
 obtain ⟨h1, es, h2, h3, h4, h5⟩ := h
 exact ⟨h1, es, h2, h3, fun g hg => by rw [hd g (own_lt h3 g hg).2]; exact h4 g hg, fun i e z he hz => (h5 i e z he hz).recol hd⟩

theorem CS.base {B B' r c : Nat} {d : Nat → Nat} {w : World} {s : Sl} {zss : List (List Int)} (h : CS w B d r c s zss) (hB : B' ≤ B) : CS w B' d r c s zss := by
 obtain ⟨h1, es, h2, h3, h4, h5⟩ := h
 exact ⟨h1, es, h2, ownsRow_base h3 hB, h4, fun i e z he hz => (h5 i e z he hz).base hB⟩

theorem CS.nil (w : World) (B : Nat) (d : Nat → Nat) (r c : Nat) : CS w B d r c ⟨none, 0, 0⟩ [] := ⟨rfl, [], rfl, World.ownsRow_nil _ _ _ _, (fun g hg => by cases hg), fun i e z he => by simp at he⟩

/-- The slice at a place, and what becomes of the list when it alone is written. -/
theorem CS.at {B r c : Nat} {d : Nat → Nat} {w : World} {s : Sl} {zss : List (List Int)} (h : CS w B d r c s zss) {k : Nat} {z : List Int} (hz : zss[k]? = some z) (hr : r ≠ c + 3 * k) :
    ∃ (g : Nat) (e : Sl), s.a = some ⟨g, 0, none⟩ ∧ w.cell? ⟨g, k, none⟩ = some (.slice e.a e.n e.c) ∧ CB w B d (c + 3 * k) e z ∧
     ∀ w' z', OnlyD B d (fun q => q = c + 3 * k) w w' → CB w' B d (c + 3 * k) e z' → CS w' B d r c s (zss.set k z') := by
 obtain ⟨h1, es, h2, h3, h4, h5⟩ := h
 have hk := (List.getElem?_eq_some_iff.1 hz).1
 obtain ⟨e, he⟩ : ∃ e, es[k]? = some e := ⟨_, List.getElem?_eq_getElem (by omega)⟩
 obtain ⟨g, cap, hv⟩ := own_some h3 (by omega)
 have hv2 := hv
 simp only [Value.slice.injEq] at hv2
 refine ⟨g, e, hv2.1, ?_, h5 k e z he hz, fun w' z' ho hc => ⟨by rw [List.length_set]; exact h1, es, by rw [List.length_set]; exact h2, own_keep h3 ho h4 hr, h4, fun i e' z'' he' hz'' => ?_⟩⟩
 · rw [hv] at h3
   rw [h3.cellAt k (by omega), List.getElem?_map, he]
   rfl
 · rw [List.getElem?_set] at hz''
   by_cases hik : k = i
   · subst hik
     rw [if_pos rfl, if_pos hk] at hz''
     obtain rfl := Option.some.inj hz''
     obtain rfl := Option.some.inj (he.symm.trans he')
     exact hc
   · rw [if_neg hik] at hz''
     exact (h5 i e' z'' he' hz'').only ho (fun q => hik (by omega))

theorem CS.bsrow {B r c : Nat} {d : Nat → Nat} {w : World} {s : Sl} {zss : List (List Int)} (h : CS w B d r c s zss) (hl : ∀ z ∈ zss, z.length ≤ maxLen) : BsRow w s.a s.n zss := by
 obtain ⟨h1, es, h2, h3, h4, h5⟩ := h
 refine ⟨h1.symm, hl, fun hp => ?_⟩
 obtain ⟨g, cap, hv⟩ := own_some h3 hp
 have hv2 := hv
 simp only [Value.slice.injEq] at hv2
 refine ⟨g, 0, hv2.1, fun i z hz => ?_⟩
 have hi := (List.getElem?_eq_some_iff.1 hz).1
 obtain ⟨e, he⟩ : ∃ e, es[i]? = some e := ⟨_, List.getElem?_eq_getElem (by omega)⟩
 rw [hv] at h3
 exact ⟨e.a, e.n, e.c, by rw [Nat.zero_add, h3.cellAt i (by omega), List.getElem?_map, he]; rfl, (h5 i e z he hz).brow⟩

/-- A header in memory of its own. -/
structure CH (w : World) (B : Nat) (d : Nat → Nat) (x : HS) (h : Hd) : Prop where
 p : CB w B d 0 x.p h.p
 t : CB w B d 1 x.t h.t
 s : CS w B d 5 7 x.s h.s
 r : CB w B d 2 x.r h.r
 g : CB w B d 3 x.g h.g
 e : CB w B d 4 x.e h.e
 k : CS w B d 6 8 x.k h.k

theorem CH.below {B C : Nat} {d : Nat → Nat} {w w' : World} {x : HS} {h : Hd} (o : CH w B d x h) (hb : Below C w w') (hC : w.heap.size ≤ C) : CH w' B d x h :=
 ⟨o.p.below hb hC, o.t.below hb hC, o.s.below hb hC, o.r.below hb hC, o.g.below hb hC, o.e.below hb hC, o.k.below hb hC⟩

theorem CH.base {B B' : Nat} {d : Nat → Nat} {w : World} {x : HS} {h : Hd} (o : CH w B d x h) (hB : B' ≤ B) : CH w B' d x h :=
 ⟨o.p.base hB, o.t.base hB, o.s.base hB, o.r.base hB, o.g.base hB, o.e.base hB, o.k.base hB⟩

theorem CH.recol {B : Nat} {d d' : Nat → Nat} {w : World} {x : HS} {h : Hd} (o : CH w B d x h) (hd : ∀ g, g < w.heap.size → d' g = d g) : CH w B d' x h :=
 ⟨o.p.recol hd, o.t.recol hd, o.s.recol hd, o.r.recol hd, o.g.recol hd, o.e.recol hd, o.k.recol hd⟩

theorem OnlyD.sblk {B : Nat} {d : Nat → Nat} {S : Nat → Prop} {w w' : World} (h : OnlyD B d S w w') {g : Nat} {vs : List Value} {T : TypeId} (hs : SBlk w g vs T) (hg : ¬ S (d g)) : SBlk w' g vs T := (h.2 g hs.lt hg).trans hs

theorem CH.hok {B : Nat} {d : Nat → Nat} {w : World} {x : HS} {h : Hd} (o : CH w B d x h) (m : HSm h) : HOk w x h :=
 ⟨o.p.brow, o.t.brow, o.s.bsrow (fun z hz => by have := m.sz z hz; unfold maxLen; omega), o.r.brow, o.g.brow, o.e.brow, o.k.bsrow (fun z hz => by have := m.kz z hz; unfold maxLen; omega)⟩

/-- The marks of a list of slices. -/
def mkss : Int → List (List Int) → List (List Int)
 | _, [] => []
 | k, z :: r => marks k z.length :: mkss (k + (z.length : Nat)) r

theorem mkss_length : ∀ (zss : List (List Int)) (k : Int), (mkss k zss).length = zss.length
 | [], k => rfl
 | z :: r, k => by rw [mkss, List.length_cons, List.length_cons, mkss_length r]

theorem mkss_at : ∀ (zss : List (List Int)) (k : Int) (i : Nat) (z : List Int), zss[i]? = some z → (mkss k zss)[i]? = some (marks (k + (bsum (zss.take i) : Nat)) z.length)
 | [], k, i, z, h => by simp at h
 | a :: r, k, 0, z, h => by
  simp at h
  subst h
  simp [mkss, bsum]
 | a :: r, k, i + 1, z, h => by
  rw [List.getElem?_cons_succ] at h
  rw [mkss, List.getElem?_cons_succ, mkss_at r _ i z h]
  have e : bsum ((a :: r).take (i + 1)) = a.length + bsum (r.take i) := by simp [bsum]
  rw [e]
  congr 2
  omega

/-- The marks of a header. -/
def mkH (k : Int) (h : Hd) : Hd :=
 { h with
  p := marks k h.p.length
  t := marks (k + (h.p.length : Nat)) h.t.length
  s := mkss (k + (h.p.length : Nat) + (h.t.length : Nat)) h.s
  r := marks (k + (h.p.length : Nat) + (h.t.length : Nat) + (bsum h.s : Nat)) h.r.length
  g := marks (k + (h.p.length : Nat) + (h.t.length : Nat) + (bsum h.s : Nat) + (h.r.length : Nat)) h.g.length
  e := marks (k + (h.p.length : Nat) + (h.t.length : Nat) + (bsum h.s : Nat) + (h.r.length : Nat) + (h.g.length : Nat)) h.e.length
  k := mkss (k + (h.p.length : Nat) + (h.t.length : Nat) + (bsum h.s : Nat) + (h.r.length : Nat) + (h.g.length : Nat) + (h.e.length : Nat)) h.k }

end Go.Proofs.YtdmcmlcmgbbclaaGreat
