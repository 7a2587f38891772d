/- What is proved here: what the program's decimal, hexText, voteSign and SnapText answer. -/
import Derived.Test.YtpkfgffgldjceaaDoorJ11
import Derived.Test.YtpkfgffgldjceaaDoorJ8
import Derived.Lib.AppendIntMem
import Derived.Lib.SmallJoins
import Derived.Deep.RegionHeld3
import Derived.Test.YtpkfgffgldjceaaDoorRows
import Derived.ProofKit
import Derived.LaidMore
import Derived.OpenShut
import Derived.FnData
import Derived.Lib.LaidTab
import Derived.Test.YtpkfgffgldjceaaDoorChecked
import Derived.Test.YtpkfgffgldjceaaDoorJ6
import Derived.KernelRfl
import Derived.Test.YtpkfgffgldjceaaDoorJ1
import Derived.WalkKit
import Derived.WalkLawsBesides
namespace Go.Proofs.YtpkfgffgldjceaaDoor
open Go.RowKit
set_option linter.unusedVariables false
set_option linter.unusedSimpArgs false
set_option maxRecDepth 100000

/-- The table of FormatInt lies as the program's text lays it. -/
def TabW (w : World) : Prop := Lib.TabIs Tryd.prog w "internal/strconv.uint64pow10" .u64 Lib.pow10Tab
theorem gTabW : Tryd.prog.globalNamed "internal/strconv.uint64pow10" = some 0 := by kernel_rfl
theorem TabW.below {w w' : World} {B : Nat} (h : TabW w) (hb : Below B w w') (hB : w.heap.size ≤ B) : TabW w' := Joins.tab_stays gTabW h hb hB

theorem fmtW_any (n : Int) (h0 : 0 ≤ n) (h1 : n ≤ 1099511627776) (w : World) (ht : TabW w) :
    Calls Tryd.prog 54 #[.int .i64 n, .int .i64 10] w fun e w' => e = .returned (.string (dgW n)) ∧ Below w.heap.size w w' := by
  refine (Any.strconv_FormatInt_10 Tryd.laysM173 n (by omega) (by omega) w ht).mono ?_
  rintro e w' ⟨rfl, k, os, rfl⟩
  refine ⟨?_, Lib.below_grow _ _ (Nat.le_refl _) k os⟩
  unfold dgW Lib.itoa
  rw [if_neg (by omega)]

theorem decimal_any (n : Int) (h0 : 0 ≤ n) (h1 : n ≤ 1099511627776) (w : World) (ht : TabW w) :
    Calls Tryd.prog 25 #[.int .i64 n] w fun e w' => e = .returned (.string (dgW n)) ∧ Below w.heap.size w w' := by
  have D := hide (fmtW_any n h0 h1 w ht)
  clear h0 h1 ht
  go_enter Tryd.func25, Tryd.ntmps25
  go_wp2_with fail
  refine (unhide D).mono ?_
  rintro r w1 ⟨rfl, b1⟩
  go_wp2_with fail
  go_ret
  exact ⟨rfl, b1⟩

theorem fieldTx (x y : Value) (w : World) : (Instr.field 29 (.agg #[x, y]) 1).run Tryd.prog w = .ok y w := by kernel_rfl

theorem hexText_any (s : Sl) (z : List Int) (w : World) (h : BOk w s z) (hz : z.length ≤ 1200) :
    Calls Tryd.prog 26 #[.slice s.a s.n s.c] w fun e w' => e = .returned (.string (hxW z)) ∧ Below w.heap.size w w' := by
  have D := hide (implHexOf_any s.a s.n s.c z w h.row (by have := h.row.1; omega))
  have e1 : hoCode z = 0 := if_neg (by omega)
  have e2 : hoText z = hxW z := if_neg (by omega)
  rw [e1, e2] at D
  clear h hz e1 e2
  go_enter Tryd.func26, Tryd.ntmps26
  have hf := fieldTx
  go_wp2_with fail
  refine (unhide D).mono ?_
  rintro r w1 ⟨rfl, b1⟩
  go_wp2_with fail
  go_ret
  exact ⟨rfl, b1⟩

set_option maxHeartbeats 2000000 in
theorem voteSign_any (s t : Sl) (add : Bool) (w : World) :
    Calls Tryd.prog 27 #[.agg #[.slice s.a s.n s.c, .slice t.a t.n t.c, .bool add]] w fun e w' => e = .returned (.string (sgW add)) ∧ Below w.heap.size w w' := by
  have HB := hide (below_alloc w (.cells #[.slice s.a s.n s.c, .slice t.a t.n t.c, .bool add] 62))
  cases add
  all_goals
    go_enter Tryd.func27, Tryd.ntmps27
    go_wp2_with fail
    go_ret
    exact ⟨rfl, unhide HB⟩

theorem infoSt : (Tryd.prog.info? 9).map (fun i => (i.zero, i.size, i.bytes)) = some (some (.string ⟨#[]⟩), 1, 16) := by kernel_rfl

/-- A list of words in memory of its own. -/
structure WRow (B : Nat) (w : World) (u : Sl) (ws : List ByteArray) : Prop where
  own : w.ownsRow B 9 1 (.slice u.a u.n u.c) u.n (ws.map Value.string)
  len : u.n = ws.length

theorem WRow.below {B C : Nat} {w w' : World} {u : Sl} {ws : List ByteArray} (h : WRow B w u ws) (hb : Below C w w') (hC : w.heap.size ≤ C) : WRow B w' u ws := ⟨own_below h.own hb hC, h.len⟩

theorem WRow.step {B m : Nat} {w w' : World} {u : Sl} {ws ns : List ByteArray} {v' : Value} (h : WRow B w u ws) (hm : ns.length = m) (h2 : w'.ownsRow B 9 1 v' (u.n + m) (ws.map Value.string ++ ns.map Value.string)) : ∃ a c, v' = .slice a (u.n + m) c ∧ WRow B w' ⟨a, u.n + m, c⟩ (ws ++ ns) := by
  obtain ⟨a, c, rfl⟩ := own_shape h2
  refine ⟨a, c, rfl, ⟨by rw [List.map_append]; exact h2, ?_⟩⟩
  have := h.len
  simp
  omega

theorem one_atS (w : World) (x : Value) (t : TypeId) : ∀ (j : Nat) (u : Value), [x][j]? = some u → (w.alloc (.cells #[x] t)).cell? ((⟨w.heap.size, 0, none⟩ : Addr).add j) = some u := by
  intro j u hj
  rw [add_none, Nat.zero_add, World.cell?_alloc_new]
  match j, hj with
  | 0, hj => simp at hj; subst hj; rfl
  | j + 1, hj => simp at hj

theorem two_atS (w : World) (x y : Value) (t : TypeId) : ∀ (j : Nat) (u : Value), [x, y][j]? = some u → (w.alloc (.cells #[x, y] t)).cell? ((⟨w.heap.size, 0, none⟩ : Addr).add j) = some u := by
  intro j u hj
  rw [add_none, Nat.zero_add, World.cell?_alloc_new]
  match j, hj with
  | 0, hj => simp at hj; subst hj; rfl
  | 1, hj => simp at hj; subst hj; rfl
  | j + 2, hj => simp at hj

theorem sentence_any (u : Sl) (ws : List ByteArray) (B : Nat) (w : World) (h : WRow B w u ws) (hl : ws.length ≤ 90) (hs : ∀ x ∈ ws, x.size ≤ 1099511627777) :
    Calls Tryd.prog 28 #[.slice u.a u.n u.c] w fun e w' => e = .returned (.string (jn ws)) ∧ Below w.heap.size w w' := by
  have hj := join_len ws 1099511627777 hs
  have hj2 : (Lib.join (ws.map (·.data.toList)) spW.data.toList).length ≤ 140737488355328 := by
    have : ws.length * (1099511627777 + 1) ≤ 90 * (1099511627777 + 1) := Nat.mul_le_mul_right _ hl
    omega
  have D : Hid (Calls Tryd.prog 56 #[.slice u.a u.n u.c, .string ⟨#[32]⟩] w fun e w' => e = .returned (.string (jn ws)) ∧ Below w.heap.size w w') := by
    show Calls _ _ _ _ _
    obtain ⟨ua, un, uc⟩ := u
    obtain ⟨own, len⟩ := h
    simp only at own len ⊢
    rcases own.2 with ⟨h1, h2⟩ | ⟨g, cap, cur, h1, _, hg, hc1, hc2, _, _⟩
    · simp only [Value.slice.injEq] at h1
      obtain ⟨rfl, rfl, rfl⟩ := h1
      have hn : ws = [] := List.length_eq_zero_iff.1 len.symm
      subst hn
      refine (Any.strings_Join_none Tryd.lays156 Tryd.Builder_Extra_156 none 0 ⟨#[32]⟩ w).mono ?_
      rintro e w' ⟨rfl, rfl⟩
      exact ⟨rfl, Below.refl _ _⟩
    · simp only [Value.slice.injEq] at h1
      obtain ⟨rfl, _, rfl⟩ := h1
      rw [len]
      refine (Any.strings_Join Tryd.lays156 Tryd.Builder_Extra_156 g 0 _ ws spW w (fun j x hx => ?_) ?_ (by omega) (by omega) hj2).mono ?_
      · have := own.cells (g := g) rfl j (.string x) (by rw [List.getElem?_map, hx]; rfl)
        rw [add_none] at this
        exact this
      · exact (own.lt g rfl).2
      · rintro e w' ⟨rfl, hb⟩
        exact ⟨by rw [jn_join], hb⟩
  clear h hl hs hj hj2
  go_enter Tryd.func28, Tryd.ntmps28
  go_wp2_with fail
  refine (unhide D).mono ?_
  rintro r w1 ⟨rfl, b1⟩
  go_wp2_with fail
  go_ret
  exact ⟨rfl, b1⟩

set_option maxHeartbeats 8000000 in
theorem implSnapText_any (e : SnS) (x : Sn) (w : World) (o : SNK.Ok w e x) (m : SnSm x) (ht : TabW w) :
    Calls Tryd.prog 8 #[.agg (snvals e x)] w fun r w' => r = .returned (.agg #[.int .i64 (snFlt x), .string (stTxt x)]) ∧ Below w.heap.size w w' := by
  obtain ⟨W0, e0, b0, hz, kx, kr⟩ := st_entry e x w
  have HF := hide (implSnapFault_any e x W0 (SNK.below o b0 (Nat.le_refl _)) m)
  have HT1 : Hid (snFlt x ≠ 0 → stTxt x = ⟨#[]⟩) := fun h => if_neg h
  have HT0 : Hid (snFlt x = 0 → stTxt x = jn (snW x)) := fun h => if_pos h
  have HQ := hide (fun (h : snFlt x = 0) => sn_iff.1 h)
  have HKR := hide (fun (W : World) (hb : Below W0.heap.size W0 W) => two_bk (kr.below hb kr.lt))
  have HKX := hide (fun (W : World) (hb : Below W0.heap.size W0 W) => st_blk (kx.below hb kx.lt))
  have HOX := hide (fun (W : World) (hb : Below W0.heap.size W0 W) => SNK.below o (b0.trans (hb.mono b0.size)) (Nat.le_refl _))
  have HTB := hide (fun (W : World) (hb : Below W0.heap.size W0 W) => ht.below (b0.trans (hb.mono b0.size)) (Nat.le_refl _))
  have HFL : Hid (∃ f, snFlt x = f) := ⟨_, rfl⟩
  have HBB := hide b0
  have EA := hide e0
  have hzz : w.heap.size ≤ w.heap.size + 1 := by omega
  obtain ⟨x0, x1, x2, x3⟩ := (unhide HKX) W0 (Below.refl _ _)
  clear o m kx kr e0 b0 hz ht
  obtain ⟨f, hf⟩ := unhide HFL
  rw [hf] at HF ⊢
  have HFE := hide hf
  generalize stTxt x = T at HT1 HT0 ⊢
  obtain ⟨xn, zss, rs, vs⟩ := x
  obtain ⟨⟨⟩, sg, sr, sv⟩ := e
  clear hf HFL
  unfold snvals at EA HF ⊢
  simp only at x0 x1 x2 x3 HKX
  go_enter Tryd.func8, Tryd.ntmps8
  go_upto_region 1 with fail
  rw [unhide EA]
  clear EA
  go_wp2_with fail
  refine (unhide HF).mono ?_
  rintro r w2 ⟨rfl, b2⟩
  have J2 := hide b2
  clear b2 x0 x1 x2 x3 HF
  by_cases h0 : f = 0
  case neg =>
    have h1 : (f != 0) = true := by simp [h0]
    have HR : Hid (T = ⟨#[]⟩) := (unhide HT1) (by rw [unhide HFE]; exact h0)
    obtain ⟨⟨r0, r1⟩, f0, f1⟩ := (unhide HKR) w2 (unhide J2)
    clear h0
    go_wp2_with fail
    exact bodyPost_ret (v := .agg #[.int .i64 f, .string ⟨#[]⟩]) (by simp [results, Tryd.results8, go_sem, r0, r1]) rfl ⟨by rw [unhide HR], ((((unhide HBB).trans ((unhide J2).mono (unhide HBB).size)).setCell (p := ⟨w.heap.size + 1, 0, none⟩) hzz _).setCell (p := ⟨w.heap.size + 1, 1, none⟩) hzz _)⟩
  subst h0
  have h1 : ((0 : Int) != 0) = false := rfl
  have H0 : Hid (snFlt (xn, zss, rs, vs) = 0) := unhide HFE
  have HTT : Hid (T = jn (snW (xn, zss, rs, vs))) := (unhide HT0) (unhide HFE)
  have HS := hide ((unhide HQ) (unhide HFE))
  have hn : 0 ≤ xn ∧ xn ≤ 1099511627776 := by have q1 := (unhide HS).1; unfold within at q1; simpa using q1
  have DD := hide (decimal_any xn hn.1 hn.2 w2 ((unhide HTB) w2 (unhide J2)))
  obtain ⟨x0, x1, x2, x3⟩ := (unhide HKX) w2 (unhide J2)
  clear HT1 HT0 HQ HFE hn
  go_wp2_with fail
  refine (unhide DD).mono ?_
  rintro r w3 ⟨rfl, b3⟩
  have J3 := hide ((unhide J2).trans (b3.mono (unhide J2).size))
  clear b3 DD x0 x1 x2 x3
  have HOWN := hide (World.ownsRow_lit (base := W0.heap.size) (e := 9) (size := 1) w3 #[.string wSnap, .string (dgW xn), .string wOf] 3 (unhide J3).size (by unfold maxLen; omega) rfl)
  have bA := below_alloc w3 (.cells #[.string wSnap, .string (dgW xn), .string wOf] 9)
  obtain ⟨W4, e4⟩ : ∃ W, w3.alloc (.cells #[.string wSnap, .string (dgW xn), .string wOf] 9) = W := ⟨_, rfl⟩
  rw [e4] at HOWN bA
  have J4 := hide ((unhide J3).trans (bA.mono (unhide J3).size))
  have E4 := hide e4
  obtain ⟨x0, x1, x2, x3⟩ := (unhide HKX) W4 (unhide J4)
  obtain ⟨g4, hg4⟩ : ∃ g, g = w3.heap.size := ⟨_, rfl⟩
  have HR4 : Hid (WRow W0.heap.size W4 ⟨some ⟨g4, 0, none⟩, 3, 3⟩ (snW1 (xn, zss, rs, vs))) := ⟨by rw [hg4]; exact unhide HOWN, rfl⟩
  have HG4 := hide hg4
  unfold wSnap wOf at E4
  clear e4 bA HOWN hg4 J3
  go_upto_region 5 with (rw [unhide E4])
  try rw [unhide E4]
  rw [← unhide HG4]
  clear E4 HG4
  obtain ⟨i0, hi, hz0, hz1, hz2⟩ := info_parts infoSt
  go_wp2_with fail
  go_loopw [4, 24] (fun q i wr => ∃ (k : Nat) (u : Sl), k ≤ sg.n ∧ q = .slice u.a u.n u.c ∧ i = .int .i64 k ∧ WRow W0.heap.size wr u (snW1 (xn, zss, rs, vs) ++ (zss.take k).map hxW) ∧ Below W0.heap.size W0 wr) (fun _ i _ => sg.n - (intOf i).toNat)
  case atStart => exact ⟨0, _, Nat.zero_le _, rfl, rfl, by simpa using unhide HR4, unhide J4⟩
  case round =>
    obtain ⟨k, u, hk, rfl, rfl, hwr, hbr⟩ := hrel
    have hlen : sg.n = zss.length := ((unhide HOX) wr hbr).2.1.len
    have hs7 : zss.length ≤ 7 := (unhide HS).2.2.1.1
    by_cases hlt : k < sg.n
    · obtain ⟨b, off, ea, hb, hc⟩ := ((unhide HOX) wr hbr).2.1.pos (by show 0 < sg.n; omega)
      simp only at ea hc
      obtain ⟨z, hz⟩ : ∃ v, zss[k]? = some v := ⟨_, List.getElem?_eq_getElem (by rw [← hlen]; exact hlt)⟩
      obtain ⟨s, c, oz⟩ := hc k z hz
      have c0 := c 0 _ rfl
      simp only [Nat.add_zero, show bytesK.m = 1 from rfl, Nat.mul_one] at c0
      have hz4 := (unhide HS).2.2.1.2.1 z (List.mem_of_getElem? hz)
      have HX := hide (hexText_any s z wr oz (by omega))
      have HN : Hid (snW1 (xn, zss, rs, vs) ++ (zss.take (k + 1)).map hxW = snW1 (xn, zss, rs, vs) ++ (zss.take k).map hxW ++ [hxW z]) := by
        show _ = _
        rw [List.take_add_one, hz, List.map_append, ← List.append_assoc]
        rfl
      have hul : u.n ≤ 100 := by
        rw [hwr.len]
        have := (List.length_take_le k zss)
        have := List.length_take (i := k) (l := zss)
        simp [snW1]; omega
      generalize hWS : snW1 (xn, zss, rs, vs) ++ (zss.take k).map hxW = WS at hwr HN
      clear hWS
      obtain ⟨sga, sgn, sgc⟩ := sg
      simp only at ea hlt hk hlen HKX
      subst ea
      have HBR := hide hbr
      have HWR := hide hwr
      have i1 : (0 : Int) ≤ (k : Int) := by omega
      have i2 : (k : Int) < (sgn : Int) := by omega
      have hs8 : sgn ≤ 7 := by omega
      clear hbr hwr hc c hz hlen hs7 oz x0 x1 x2 x3
      go_wp2_with fail
      refine (unhide HX).mono ?_
      rintro r w5 ⟨rfl, b5⟩
      have ba := below_alloc w5 (.cells #[.string (hxW z)] 9)
      have b56 := b5.trans (ba.mono b5.size)
      have HR5 := hide ((unhide HWR).below b56 (Nat.le_refl _))
      have J5 := hide ((unhide HBR).trans (b56.mono (unhide HBR).size))
      have own5 := (unhide HR5).own
      clear ba b56 b5 HX
      go_wp2_with (at_builtin; refine wpList_append_own_at _ rfl _ _ 39 rfl W0.heap.size 9 i0 (.string ⟨#[]⟩) 1 16 Tryd.underlying39 hi hz0 hz1 hz2 rfl (by decide) _ _ _ rfl own5 ⟨w5.heap.size, 0, none⟩ 1 1 [.string (hxW z)] rfl rfl (one_atS _ _ _) (by intro u hu; simp at hu; subst hu; rfl) (by unfold maxLen; omega) (by omega) (unhide J5).size ?_)
      intro v' w6 hown2 hgrow _ hblk
      obtain ⟨a6, c6, rfl, hw6⟩ := (unhide HR5).step (ns := [hxW z]) rfl hown2
      have J6 := hide ((unhide J5).grown hgrow (unhide J5).size (fun g e => (own5.lt g e).1))
      have HW6 := hide hw6
      clear hown2 hgrow hblk own5 hw6 J5 HR5 HWR HBR
      go_wp2_with fail
      go_roundw
      case rel => exact ⟨k + 1, ⟨a6, u.n + 1, c6⟩, by omega, rfl, by go_num, by rw [unhide HN]; exact unhide HW6, unhide J6⟩
      case measure => simp [intOf]; omega
    · obtain rfl : k = sg.n := by omega
      have hkn : ¬ ((sg.n : Int) < (sg.n : Int)) := by omega
      have HE : Hid (snW1 (xn, zss, rs, vs) ++ (zss.take sg.n).map hxW = snW2 (xn, zss, rs, vs)) := by
        show _ = _
        rw [List.take_of_length_le (by omega)]
        rfl
      rw [unhide HE] at hwr
      have hul : u.n ≤ 100 := by
        rw [hwr.len]
        simp [snW2, snW1]; omega
      have ba := below_alloc wr (.cells #[.string ⟨#[114, 101, 99, 101, 110, 116, 115]⟩] 9)
      have HR5 := hide (hwr.below ba (Nat.le_refl _))
      have J5 := hide (hbr.trans (ba.mono hbr.size))
      have own5 := (unhide HR5).own
      clear HE hwr hbr hlen hs7 hlt x0 x1 x2 x3 ba J4 HR4
      go_wp2_with (at_builtin; refine wpList_append_own_at _ rfl _ _ 39 rfl W0.heap.size 9 i0 (.string ⟨#[]⟩) 1 16 Tryd.underlying39 hi hz0 hz1 hz2 rfl (by decide) _ _ _ rfl own5 ⟨wr.heap.size, 0, none⟩ 1 1 [.string ⟨#[114, 101, 99, 101, 110, 116, 115]⟩] rfl rfl (one_atS _ _ _) (by intro u hu; simp at hu; subst hu; rfl) (by unfold maxLen; omega) (by omega) (unhide J5).size ?_)
      intro v' w6 hown2 hgrow _ hblk
      obtain ⟨a6, c6, rfl, hw6⟩ := (unhide HR5).step (ns := [wRec]) rfl hown2
      have J6 := hide ((unhide J5).grown hgrow (unhide J5).size (fun g e => (own5.lt g e).1))
      have HW6 : Hid (WRow W0.heap.size w6 ⟨a6, u.n + 1, c6⟩ (snW3 (xn, zss, rs, vs))) := hw6
      obtain ⟨x0, x1, x2, x3⟩ := (unhide HKX) w6 (unhide J6)
      clear hown2 hgrow hblk own5 hw6 J5 HR5 hkn
      go_wp2_with fail
      go_loopw [4, 40] (fun q i wr => ∃ (k : Nat) (u : Sl), k ≤ sr.n ∧ q = .slice u.a u.n u.c ∧ i = .int .i64 k ∧ WRow W0.heap.size wr u (snW3 (xn, zss, rs, vs) ++ (rs.take k).flatMap rcW) ∧ Below W0.heap.size W0 wr) (fun _ i _ => sr.n - (intOf i).toNat)
      case atStart => exact ⟨0, ⟨a6, u.n + 1, c6⟩, Nat.zero_le _, rfl, rfl, by simpa using unhide HW6, unhide J6⟩
      case round =>
        obtain ⟨k, u, hk, rfl, rfl, hwr, hbr⟩ := hrel
        have hlen : sr.n = rs.length := ((unhide HOX) _ hbr).2.2.1.len
        have hs7 : rs.length ≤ 7 := (unhide HS).2.2.2.1
        have hz7 : zss.length ≤ 7 := (unhide HS).2.2.1.1
        by_cases hlt : k < sr.n
        · obtain ⟨b, off, ea, hb, hc⟩ := ((unhide HOX) _ hbr).2.2.1.pos (by show 0 < sr.n; omega)
          simp only at ea hc
          obtain ⟨y, hz⟩ : ∃ v, rs[k]? = some v := ⟨_, List.getElem?_eq_getElem (by rw [← hlen]; exact hlt)⟩
          obtain ⟨⟨⟨⟩, s⟩, c, oz⟩ := hc k y hz
          have c0 := c 0 _ rfl
          have c1 := c 1 _ rfl
          simp only [Nat.add_zero, show rcK.m = 2 from rfl] at c0 c1
          have hz4 := (unhide HS).2.2.2.2.2.1.1 y (List.mem_of_getElem? hz)
          have hx0 : 0 ≤ xn ∧ xn ≤ 1099511627776 := by have q1 := (unhide HS).1; unfold within at q1; simpa using q1
          obtain ⟨q, z⟩ := y
          simp only at hz4
          have HN : Hid (snW3 (xn, zss, rs, vs) ++ (rs.take (k + 1)).flatMap rcW = snW3 (xn, zss, rs, vs) ++ (rs.take k).flatMap rcW ++ [dgW q, hxW z]) := by
            show _ = _
            rw [List.take_add_one, hz, List.flatMap_append, ← List.append_assoc]
            rfl
          have hul : u.n ≤ 100 := by
            rw [hwr.len]
            have := List.length_take (i := k) (l := rs)
            simp [snW3, snW2, snW1, flat_len rcW (fun _ => rfl)]; omega
          generalize hWS : snW3 (xn, zss, rs, vs) ++ (rs.take k).flatMap rcW = WS at hwr HN
          clear hWS
          obtain ⟨sra, srn, src⟩ := sr
          simp only at ea hlt hk hlen HKX
          subst ea
          have i1 : (0 : Int) ≤ (k : Int) := by omega
          have i2 : (k : Int) < (srn : Int) := by omega
          have hs8 : srn ≤ 7 := by omega
          have ka := SBlk.new wr #[.int .i64 q, .slice s.a s.n s.c] 60
          have ba := below_alloc wr (.cells #[.int .i64 q, .slice s.a s.n s.c] 60)
          obtain ⟨w7, e7⟩ : ∃ W, wr.alloc (.cells #[.int .i64 q, .slice s.a s.n s.c] 60) = W := ⟨_, rfl⟩
          rw [e7] at ka ba
          have E7 := hide e7
          obtain ⟨g7, hg7⟩ : ∃ g, g = wr.heap.size := ⟨_, rfl⟩
          rw [← hg7] at ka
          have HG7 := hide hg7
          have J7 := hide (hbr.trans (ba.mono hbr.size))
          have HW7 := hide (hwr.below ba (Nat.le_refl _))
          have oz7 := bytesK.below oz.2 ba (Nat.le_refl _)
          have HDG := hide (fun (W : World) (hb : Below w7.heap.size w7 W) => decimal_any q hz4.2.1 (by omega) W ((unhide HTB) W ((unhide J7).trans (hb.mono (unhide J7).size))))
          have HX := hide (fun (W : World) (hb : Below w7.heap.size w7 W) => hexText_any s z W (bytesK.below oz7 hb (Nat.le_refl _)) (by omega))
          have HCS : Hid (∀ W, Below w7.heap.size w7 W → W.cell? ⟨g7, 0, none⟩ = some (.int .i64 q) ∧ W.cell? ⟨g7, 1, none⟩ = some (.slice s.a s.n s.c)) := fun W hb => ⟨(ka.below hb ka.lt).cell 0, (ka.below hb ka.lt).cell 1⟩
          have HLT : Hid (∀ g, (Value.slice u.a u.n u.c).ownBlock = some g → W0.heap.size ≤ g) := fun g e => (hwr.own.lt g e).1
          have HKA : Hid (∀ W W2 : World, Below w7.heap.size w7 W → W.grownBy W2 (Value.slice u.a u.n u.c).ownBlock → W2.cell? ⟨g7, 0, none⟩ = some (.int .i64 q) ∧ W2.cell? ⟨g7, 1, none⟩ = some (.slice s.a s.n s.c)) := fun W W2 hb hg => by
            have k := ka.below hb ka.lt
            have k2 : SBlk W2 g7 [.int .i64 q, .slice s.a s.n s.c] 60 := (hg.block g7 k.lt (by
              intro e
              have := (hwr.own.lt g7 (by first | exact e | exact e.symm)).2
              omega)).trans k
            exact ⟨k2.cell 0, k2.cell 1⟩
          clear hwr hbr hc c hz hlen hs7 hz7 oz x0 x1 x2 x3 hz4 hx0 e7 hg7 ka ba oz7
          go_upto_region 14 with (rw [unhide E7])
          try rw [unhide E7]
          rw [← unhide HG7]
          clear E7 HG7
          refine wp_region_held_drew (S := (fun W => W.cell? ⟨g7, 0, none⟩ = some (.int .i64 q) ∧ W.cell? ⟨g7, 1, none⟩ = some (.slice s.a s.n s.c))) (by kernel_rfl) ((unhide HCS) _ (Below.refl w7.heap.size w7).drew) (fun hHeld => ?_)
          refine wpAnyH_take (i := 0) (oi := _) (v := ?_) rfl (by kernel_rfl) (by kernel_rfl) (by kernel_rfl) (fun _ _ _ h => h) (Or.inl ⟨by rfl, ?_⟩) (by assumption) ?_
          rotate_left
          · ((intro wq hSw; (try dsimp only at hSw); go_simp) <;> with_reducible rfl)
          try dsimp only
          refine wpAnyH_take (i := 1) (oi := _) (v := ?_) rfl (by kernel_rfl) (by kernel_rfl) (by kernel_rfl) (fun _ _ _ h => h) (Or.inl ⟨by rfl, ?_⟩) (by assumption) ?_
          rotate_left
          · ((intro wq hSw; (try dsimp only at hSw); go_simp) <;> with_reducible rfl)
          try dsimp only
          refine wpAnyH_take (i := 2) (oi := _) (v := ?_) rfl (by kernel_rfl) (by kernel_rfl) (by kernel_rfl) (fun _ _ _ h => h) (Or.inl ⟨by rfl, ?_⟩) (by assumption) ?_
          rotate_left
          · ((intro wq hSw; (try dsimp only at hSw); go_simp) <;> with_reducible rfl)
          try dsimp only
          refine wpAnyH_take (i := 4) (oi := _) (v := ?_) rfl (by kernel_rfl) (by kernel_rfl) (by kernel_rfl) (fun _ _ _ h => h) (Or.inl ⟨by rfl, ?_⟩) (by assumption) ?_
          rotate_left
          · ((intro wq hSw; (try dsimp only at hSw); go_simp) <;> with_reducible rfl)
          try dsimp only
          refine wpAnyH_take (i := 5) (oi := _) (v := ?_) rfl (by kernel_rfl) (by kernel_rfl) (by kernel_rfl) (fun _ _ _ h => h) (Or.inl ⟨by rfl, ?_⟩) (by assumption) ?_
          rotate_left
          · ((intro wq hSw; (try dsimp only at hSw); go_simp) <;> with_reducible rfl)
          try dsimp only
          refine wpAnyH_ready (rs := [3]) (by kernel_rfl) (by simp) ?_
          refine AllReadyH.cons (o := _) rfl (fun K hK => ?_) AllReadyH.nil
          go_simp
          go_at_call 25
          refine ((unhide HDG) _ (by first | exact (Below.refl w7.heap.size w7).drew | exact below_drewN (Below.refl w7.heap.size w7) _ | exact Below.refl _ _)).mono ?_
          rintro r u1 ⟨rfl, b4⟩
          have J8 : Below w7.heap.size w7 u1 := Below.trans (by first | exact (Below.refl w7.heap.size w7).drew | exact below_drewN (Below.refl w7.heap.size w7) _ | exact Below.refl _ _) (b4.mono (by first | exact Nat.le_refl _ | exact (below_drewN (Below.refl w7.heap.size w7) _).size))
          clear b4
          (try dsimp only)
          refine hK.out _ _ ((unhide HCS) _ J8) (fun hHeld => ?_)
          clear hK K
          try dsimp only
          refine wpAnyH_ready (rs := [6]) (by kernel_rfl) (by simp) ?_
          refine AllReadyH.cons (o := _) rfl (fun K hK => ?_) AllReadyH.nil
          go_simp
          go_at_call 26
          refine ((unhide HX) _ J8).mono ?_
          rintro r u2 ⟨rfl, b4⟩
          have J9 := J8.trans (b4.mono J8.size)
          clear b4
          (try dsimp only)
          refine hK.out _ _ ((unhide HCS) _ J9) (fun hHeld => ?_)
          clear hK K
          try dsimp only
          refine wpAnyH_ready (rs := [7]) (by kernel_rfl) (by simp) ?_
          refine AllReadyH.cons (o := _) rfl (fun K hK => ?_) AllReadyH.nil
          go_simp
          refine hK.out _ _ ((unhide HCS) _ (Below.alloc J9 J9.size _)) (fun hHeld => ?_)
          clear hK K
          try dsimp only
          refine wpAnyH_ready (rs := [8]) (by kernel_rfl) (by simp) ?_
          refine AllReadyH.cons (o := _) rfl (fun K hK => ?_) AllReadyH.nil
          refine step_append_lies _ (by rfl) (.tmp 44) (.tmp 51) 39 (by rfl) W0.heap.size 9 i0 (.string ⟨#[]⟩) 1 16 Tryd.underlying39 hi hz0 hz1 hz2 rfl (by decide) _ _ _ (by rfl) (by exact (((unhide HW7).below J9 (Nat.le_refl _)).below (below_alloc u2 _) (Nat.le_refl _)).own) ⟨u2.heap.size, 0, none⟩ 2 2 [.string (dgW q), .string (hxW z)] (by rfl) rfl (by exact two_atS _ _ _ _) (by simp [Value.oneCell']) (by omega) (by unfold maxLen; omega) (by omega) (by have := J9.size; have := (unhide J7).size; simp; omega) _ rfl ?_
          intro g2 cap2 W2 hown2 hgrow2 hat2 hlt2
          refine hK.out _ _ ((unhide HKA) _ _ (Below.alloc J9 J9.size _) hgrow2) (fun hHeld => ?_)
          clear hK K
          try dsimp only
          refine wpAnyH_take (i := 9) (oi := _) (v := ?_) rfl (by kernel_rfl) (by kernel_rfl) (by kernel_rfl) (fun _ _ _ h => h) (Or.inl ⟨by rfl, ?_⟩) (by assumption) ?_
          rotate_left
          · ((intro wq hSw; (try dsimp only at hSw); go_simp) <;> with_reducible rfl)
          try dsimp only
          refine wpAnyH_done (by kernel_rfl) ?_ _
          have hw2 : WRow W0.heap.size W2 ⟨some ⟨g2, 0, none⟩, u.n + 2, cap2⟩ (WS ++ [dgW q, hxW z]) := by
            obtain ⟨a9, c9, e9, h9⟩ := ((unhide HW7).step (ns := [dgW q, hxW z]) rfl hown2)
            cases e9
            exact h9
          have jj := (unhide J7).trans ((Below.alloc J9 J9.size (.cells #[.string (dgW q), .string (hxW z)] 9)).mono (unhide J7).size)
          have JJ := hide (jj.grown hgrow2 jj.size (fun g e => ((unhide HLT) g e)))
          have HW9 := hide hw2
          clear hown2 hgrow2 hat2 hlt2 hw2 jj J8 J9 HDG HX HCS HKA HW7 J7 hHeld
          go_wp2_with fail
          go_roundw
          case rel => exact ⟨.slice (some ⟨g2, 0, none⟩) (u.n + 2) cap2, .pointer (some ⟨g7, 0, none⟩), .int .i64 ((k : Int) + 1), ⟨k + 1, by omega, ⟨some ⟨g2, 0, none⟩, u.n + 2, cap2⟩, rfl, by go_num, by rw [unhide HN]; exact unhide HW9, unhide JJ⟩, rfl, rfl, rfl⟩
          case measure => simp [intOf]; omega
        · obtain rfl : k = sr.n := by omega
          have hkn : ¬ ((sr.n : Int) < (sr.n : Int)) := by omega
          have HE : Hid (snW3 (xn, zss, rs, vs) ++ (rs.take sr.n).flatMap rcW = snW4 (xn, zss, rs, vs)) := by
            show _ = _
            rw [List.take_of_length_le (by omega)]
            rfl
          rw [unhide HE] at hwr
          have hul : u.n ≤ 100 := by
            rw [hwr.len]
            simp [snW4, snW3, snW2, snW1, flat_len rcW (fun _ => rfl)]; omega
          have ba := below_alloc wr (.cells #[.string ⟨#[118, 111, 116, 101, 115]⟩] 9)
          have HR5 := hide (hwr.below ba (Nat.le_refl _))
          have J5 := hide (hbr.trans (ba.mono hbr.size))
          have own5 := (unhide HR5).own
          clear HE hwr hbr hlen hs7 hz7 hlt x0 x1 x2 x3 ba J6 HW6
          go_wp2_with (at_builtin; refine wpList_append_own_at _ rfl _ _ 39 rfl W0.heap.size 9 i0 (.string ⟨#[]⟩) 1 16 Tryd.underlying39 hi hz0 hz1 hz2 rfl (by decide) _ _ _ rfl own5 ⟨wr.heap.size, 0, none⟩ 1 1 [.string ⟨#[118, 111, 116, 101, 115]⟩] rfl rfl (one_atS _ _ _) (by intro u hu; simp at hu; subst hu; rfl) (by unfold maxLen; omega) (by omega) (unhide J5).size ?_)
          intro v' w6 hown2 hgrow _ hblk
          obtain ⟨a6, c6, rfl, hw6⟩ := (unhide HR5).step (ns := [wVot]) rfl hown2
          have J6 := hide ((unhide J5).grown hgrow (unhide J5).size (fun g e => (own5.lt g e).1))
          have HW6 : Hid (WRow W0.heap.size w6 ⟨a6, u.n + 1, c6⟩ (snW5 (xn, zss, rs, vs))) := hw6
          obtain ⟨x0, x1, x2, x3⟩ := (unhide HKX) w6 (unhide J6)
          clear hown2 hgrow hblk own5 hw6 J5 HR5 hkn
          go_wp2_with fail
          go_loopw [4, 60] (fun q i wr => ∃ (k : Nat) (u : Sl), k ≤ sv.n ∧ q = .slice u.a u.n u.c ∧ i = .int .i64 k ∧ WRow W0.heap.size wr u (snW5 (xn, zss, rs, vs) ++ (vs.take k).flatMap vtW) ∧ Below W0.heap.size W0 wr) (fun _ i _ => sv.n - (intOf i).toNat)
          case atStart => exact ⟨0, ⟨a6, u.n + 1, c6⟩, Nat.zero_le _, rfl, rfl, by simpa using unhide HW6, unhide J6⟩
          case round =>
            obtain ⟨k, u, hk, rfl, rfl, hwr, hbr⟩ := hrel
            have hlen : sv.n = vs.length := ((unhide HOX) _ hbr).2.2.2.len
            have hs7 : vs.length ≤ 30 := (unhide HS).2.2.2.2.1
            have hr7 : rs.length ≤ 7 := (unhide HS).2.2.2.1
            have hz7 : zss.length ≤ 7 := (unhide HS).2.2.1.1
            by_cases hlt : k < sv.n
            · obtain ⟨b, off, ea, hb, hc⟩ := ((unhide HOX) _ hbr).2.2.2.pos (by show 0 < sv.n; omega)
              simp only at ea hc
              obtain ⟨y, hz⟩ : ∃ v, vs[k]? = some v := ⟨_, List.getElem?_eq_getElem (by rw [← hlen]; exact hlt)⟩
              obtain ⟨⟨s, t, ⟨⟩⟩, c, oz⟩ := hc k y hz
              have c0 := c 0 _ rfl
              have c1 := c 1 _ rfl
              have c2 := c 2 _ rfl
              simp only [Nat.add_zero, show vtK.m = 3 from rfl] at c0 c1 c2
              have hz4 := (unhide HS).2.2.2.2.2.2.1 y (List.mem_of_getElem? hz)
              obtain ⟨z, y, add⟩ := y
              have hzl : z.length = 4 := hz4.1
              have hyl : y.length = 4 := hz4.2.1
              have HN : Hid (snW5 (xn, zss, rs, vs) ++ (vs.take (k + 1)).flatMap vtW = snW5 (xn, zss, rs, vs) ++ (vs.take k).flatMap vtW ++ [hxW z, sgW add ++ hxW y]) := by
                show _ = _
                rw [List.take_add_one, hz, List.flatMap_append, ← List.append_assoc]
                rfl
              have hul : u.n ≤ 100 := by
                rw [hwr.len]
                have := List.length_take (i := k) (l := vs)
                simp [snW5, snW4, snW3, snW2, snW1, flat_len rcW (fun _ => rfl), flat_len vtW (fun _ => rfl)]; omega
              generalize hWS : snW5 (xn, zss, rs, vs) ++ (vs.take k).flatMap vtW = WS at hwr HN
              clear hWS
              obtain ⟨sva, svn, svc⟩ := sv
              simp only at ea hlt hk hlen HKX
              subst ea
              have i1 : (0 : Int) ≤ (k : Int) := by omega
              have i2 : (k : Int) < (svn : Int) := by omega
              have hs8 : svn ≤ 30 := by omega
              have hyz := hxW_size y
              have hgz := sgW_size add
              rw [hyl] at hyz
              have f1 : ¬ (9223372036854775807 < (sgW add).size + (hxW y).size) := by omega
              have ka := SBlk.new wr #[.slice s.a s.n s.c, .slice t.a t.n t.c, .bool add] 62
              have ba := below_alloc wr (.cells #[.slice s.a s.n s.c, .slice t.a t.n t.c, .bool add] 62)
              obtain ⟨w7, e7⟩ : ∃ W, wr.alloc (.cells #[.slice s.a s.n s.c, .slice t.a t.n t.c, .bool add] 62) = W := ⟨_, rfl⟩
              rw [e7] at ka ba
              have E7 := hide e7
              obtain ⟨g7, hg7⟩ : ∃ g, g = wr.heap.size := ⟨_, rfl⟩
              rw [← hg7] at ka
              have HG7 := hide hg7
              have J7 := hide (hbr.trans (ba.mono hbr.size))
              have HW7 := hide (hwr.below ba (Nat.le_refl _))
              have oz7 := bytesK.below oz.1 ba (Nat.le_refl _)
              have oy7 := bytesK.below oz.2.1 ba (Nat.le_refl _)
              have HX := hide (fun (W : World) (hb : Below w7.heap.size w7 W) => hexText_any s z W (bytesK.below oz7 hb (Nat.le_refl _)) (by omega))
              have HY := hide (fun (W : World) (hb : Below w7.heap.size w7 W) => hexText_any t y W (bytesK.below oy7 hb (Nat.le_refl _)) (by omega))
              have HSG := hide (fun (W : World) => voteSign_any s t add W)
              have HCS : Hid (∀ W, Below w7.heap.size w7 W → W.cell? ⟨g7, 0, none⟩ = some (.slice s.a s.n s.c) ∧ W.cell? ⟨g7, 1, none⟩ = some (.slice t.a t.n t.c) ∧ W.cell? ⟨g7, 2, none⟩ = some (.bool add)) := fun W hb => ⟨(ka.below hb ka.lt).cell 0, (ka.below hb ka.lt).cell 1, (ka.below hb ka.lt).cell 2⟩
              have HLT : Hid (∀ g, (Value.slice u.a u.n u.c).ownBlock = some g → W0.heap.size ≤ g) := fun g e => (hwr.own.lt g e).1
              have HKA : Hid (∀ W W2 : World, Below w7.heap.size w7 W → W.grownBy W2 (Value.slice u.a u.n u.c).ownBlock → W2.cell? ⟨g7, 0, none⟩ = some (.slice s.a s.n s.c) ∧ W2.cell? ⟨g7, 1, none⟩ = some (.slice t.a t.n t.c) ∧ W2.cell? ⟨g7, 2, none⟩ = some (.bool add)) := fun W W2 hb hg => by
                have k := ka.below hb ka.lt
                have k2 : SBlk W2 g7 [.slice s.a s.n s.c, .slice t.a t.n t.c, .bool add] 62 := (hg.block g7 k.lt (by
                  intro e
                  have := (hwr.own.lt g7 (by first | exact e | exact e.symm)).2
                  omega)).trans k
                exact ⟨k2.cell 0, k2.cell 1, k2.cell 2⟩
              clear hwr hbr hc c hz hlen hs7 hr7 hz7 oz x0 x1 x2 x3 hz4 hzl hyl e7 hg7 ka ba oz7 oy7 hyz hgz
              go_upto_region 20 with (rw [unhide E7])
              try rw [unhide E7]
              rw [← unhide HG7]
              clear E7 HG7
              generalize sgW add = SG at HSG HN f1
              refine wp_region_held_drew (S := (fun W => W.cell? ⟨g7, 0, none⟩ = some (.slice s.a s.n s.c) ∧ W.cell? ⟨g7, 1, none⟩ = some (.slice t.a t.n t.c) ∧ W.cell? ⟨g7, 2, none⟩ = some (.bool add))) (by kernel_rfl) ((unhide HCS) _ (Below.refl w7.heap.size w7).drew) (fun hHeld => ?_)
              refine wpAnyH_take (i := 0) (oi := _) (v := ?_) rfl (by kernel_rfl) (by kernel_rfl) (by kernel_rfl) (fun _ _ _ h => h) (Or.inl ⟨by rfl, ?_⟩) (by assumption) ?_
              rotate_left
              · ((intro wq hSw; (try dsimp only at hSw); go_simp) <;> with_reducible rfl)
              try dsimp only
              refine wpAnyH_take (i := 1) (oi := _) (v := ?_) rfl (by kernel_rfl) (by kernel_rfl) (by kernel_rfl) (fun _ _ _ h => h) (Or.inl ⟨by rfl, ?_⟩) (by assumption) ?_
              rotate_left
              · ((intro wq hSw; (try dsimp only at hSw); go_simp) <;> with_reducible rfl)
              try dsimp only
              refine wpAnyH_take (i := 2) (oi := _) (v := ?_) rfl (by kernel_rfl) (by kernel_rfl) (by kernel_rfl) (fun _ _ _ h => h) (Or.inl ⟨by rfl, ?_⟩) (by assumption) ?_
              rotate_left
              · ((intro wq hSw; (try dsimp only at hSw); go_simp) <;> with_reducible rfl)
              try dsimp only
              refine wpAnyH_take (i := 4) (oi := _) (v := ?_) rfl (by kernel_rfl) (by kernel_rfl) (by kernel_rfl) (fun _ _ _ h => h) (Or.inl ⟨by rfl, ?_⟩) (by assumption) ?_
              rotate_left
              · ((intro wq hSw; (try dsimp only at hSw); go_simp) <;> with_reducible rfl)
              try dsimp only
              refine wpAnyH_take (i := 6) (oi := _) (v := ?_) rfl (by kernel_rfl) (by kernel_rfl) (by kernel_rfl) (fun _ _ _ h => h) (Or.inl ⟨by rfl, ?_⟩) (by assumption) ?_
              rotate_left
              · ((intro wq hSw; (try dsimp only at hSw); go_simp) <;> with_reducible rfl)
              try dsimp only
              refine wpAnyH_take (i := 7) (oi := _) (v := ?_) rfl (by kernel_rfl) (by kernel_rfl) (by kernel_rfl) (fun _ _ _ h => h) (Or.inl ⟨by rfl, ?_⟩) (by assumption) ?_
              rotate_left
              · ((intro wq hSw; (try dsimp only at hSw); go_simp) <;> with_reducible rfl)
              try dsimp only
              refine wpAnyH_ready (rs := [3]) (by kernel_rfl) (by simp) ?_
              refine AllReadyH.cons (o := _) rfl (fun K hK => ?_) AllReadyH.nil
              go_simp
              go_at_call 26
              refine ((unhide HX) _ (by first | exact (Below.refl w7.heap.size w7).drew | exact below_drewN (Below.refl w7.heap.size w7) _ | exact Below.refl _ _)).mono ?_
              rintro r u1 ⟨rfl, b4⟩
              have J8 : Below w7.heap.size w7 u1 := Below.trans (by first | exact (Below.refl w7.heap.size w7).drew | exact below_drewN (Below.refl w7.heap.size w7) _ | exact Below.refl _ _) (b4.mono (by first | exact Nat.le_refl _ | exact (below_drewN (Below.refl w7.heap.size w7) _).size))
              clear b4
              (try dsimp only)
              refine hK.out _ _ ((unhide HCS) _ J8) (fun hHeld => ?_)
              clear hK K
              try dsimp only
              refine wpAnyH_ready (rs := [5]) (by kernel_rfl) (by simp) ?_
              refine AllReadyH.cons (o := _) rfl (fun K hK => ?_) AllReadyH.nil
              go_simp
              go_at_call 27
              refine ((unhide HSG) _).mono ?_
              rintro r u2 ⟨rfl, b4⟩
              have J9 := J8.trans (b4.mono J8.size)
              clear b4
              (try dsimp only)
              refine hK.out _ _ ((unhide HCS) _ J9) (fun hHeld => ?_)
              clear hK K
              try dsimp only
              refine wpAnyH_ready (rs := [8]) (by kernel_rfl) (by simp) ?_
              refine AllReadyH.cons (o := _) rfl (fun K hK => ?_) AllReadyH.nil
              go_simp
              go_at_call 26
              refine ((unhide HY) _ J9).mono ?_
              rintro r u3 ⟨rfl, b4⟩
              have JA := J9.trans (b4.mono J9.size)
              clear b4
              (try dsimp only)
              refine hK.out _ _ ((unhide HCS) _ JA) (fun hHeld => ?_)
              clear hK K
              try dsimp only
              refine wpAnyH_take (i := 9) (oi := _) (v := ?_) rfl (by kernel_rfl) (by kernel_rfl) (by kernel_rfl) (fun _ _ _ h => h) (Or.inl ⟨by rfl, ?_⟩) (by assumption) ?_
              rotate_left
              · ((intro wq hSw; (try dsimp only at hSw); go_simp) <;> with_reducible rfl)
              try dsimp only
              refine wpAnyH_ready (rs := [10]) (by kernel_rfl) (by simp) ?_
              refine AllReadyH.cons (o := _) rfl (fun K hK => ?_) AllReadyH.nil
              go_simp
              refine hK.out _ _ ((unhide HCS) _ (Below.alloc JA JA.size _)) (fun hHeld => ?_)
              clear hK K
              try dsimp only
              refine wpAnyH_ready (rs := [11]) (by kernel_rfl) (by simp) ?_
              refine AllReadyH.cons (o := _) rfl (fun K hK => ?_) AllReadyH.nil
              refine step_append_lies _ (by rfl) (.tmp 64) (.tmp 74) 39 (by rfl) W0.heap.size 9 i0 (.string ⟨#[]⟩) 1 16 Tryd.underlying39 hi hz0 hz1 hz2 rfl (by decide) _ _ _ (by rfl) (by exact (((unhide HW7).below JA (Nat.le_refl _)).below (below_alloc u3 _) (Nat.le_refl _)).own) ⟨u3.heap.size, 0, none⟩ 2 2 [.string (hxW z), .string (SG ++ hxW y)] (by rfl) rfl (by exact two_atS _ _ _ _) (by simp [Value.oneCell']) (by omega) (by unfold maxLen; omega) (by omega) (by have := JA.size; have := (unhide J7).size; simp; omega) _ rfl ?_
              intro g2 cap2 W2 hown2 hgrow2 hat2 hlt2
              refine hK.out _ _ ((unhide HKA) _ _ (Below.alloc JA JA.size _) hgrow2) (fun hHeld => ?_)
              clear hK K
              try dsimp only
              refine wpAnyH_take (i := 12) (oi := _) (v := ?_) rfl (by kernel_rfl) (by kernel_rfl) (by kernel_rfl) (fun _ _ _ h => h) (Or.inl ⟨by rfl, ?_⟩) (by assumption) ?_
              rotate_left
              · ((intro wq hSw; (try dsimp only at hSw); go_simp) <;> with_reducible rfl)
              try dsimp only
              refine wpAnyH_done (by kernel_rfl) ?_ _
              have hw2 : WRow W0.heap.size W2 ⟨some ⟨g2, 0, none⟩, u.n + 2, cap2⟩ (WS ++ [hxW z, SG ++ hxW y]) := by
                obtain ⟨a9, c9, e9, h9⟩ := ((unhide HW7).step (ns := [hxW z, SG ++ hxW y]) rfl hown2)
                cases e9
                exact h9
              have jj := (unhide J7).trans ((Below.alloc JA JA.size (.cells #[.string (hxW z), .string (SG ++ hxW y)] 9)).mono (unhide J7).size)
              have JJ := hide (jj.grown hgrow2 jj.size (fun g e => ((unhide HLT) g e)))
              have HW9 := hide hw2
              clear hown2 hgrow2 hat2 hlt2 hw2 jj J8 J9 JA HX HY HSG HCS HKA HW7 J7 hHeld
              go_wp2_with fail
              go_roundw
              case rel => exact ⟨.slice (some ⟨g2, 0, none⟩) (u.n + 2) cap2, .pointer (some ⟨g7, 0, none⟩), .int .i64 ((k : Int) + 1), ⟨k + 1, by omega, ⟨some ⟨g2, 0, none⟩, u.n + 2, cap2⟩, rfl, by go_num, by rw [unhide HN]; exact unhide HW9, unhide JJ⟩, rfl, rfl, rfl⟩
              case measure => simp [intOf]; omega
            · obtain rfl : k = sv.n := by omega
              have hkn : ¬ ((sv.n : Int) < (sv.n : Int)) := by omega
              have HE : Hid (snW5 (xn, zss, rs, vs) ++ (vs.take sv.n).flatMap vtW = snW (xn, zss, rs, vs)) := by
                show _ = _
                rw [List.take_of_length_le (by omega)]
                rfl
              rw [unhide HE] at hwr
              have HSE := hide (sentence_any u (snW (xn, zss, rs, vs)) W0.heap.size wr hwr (snW_ok (unhide H0)).1 (snW_ok (unhide H0)).2)
              rw [← unhide HTT] at HSE
              have HBR := hide hbr
              clear HE hwr hbr hlen hs7 hr7 hz7 hlt x0 x1 x2 x3
              go_wp2_with fail
              refine (unhide HSE).mono ?_
              rintro r w8 ⟨rfl, b8⟩
              have J8 := hide ((unhide HBR).trans (b8.mono (unhide HBR).size))
              obtain ⟨⟨r0, r1⟩, f0, f1⟩ := (unhide HKR) w8 (unhide J8)
              clear b8
              go_wp2_with fail
              exact bodyPost_ret (v := .agg #[.int .i64 0, .string T]) (by simp [results, Tryd.results8, go_sem, r0, r1]) rfl ⟨rfl, ((((unhide HBB).trans ((unhide J8).mono (unhide HBB).size)).setCell (p := ⟨w.heap.size + 1, 0, none⟩) hzz _).setCell (p := ⟨w.heap.size + 1, 1, none⟩) hzz _)⟩

end Go.Proofs.YtpkfgffgldjceaaDoor

/- What is proved here: what the row's condition on its three listed variables gives the walks: the table that FormatInt reads. -/
namespace Go.Proofs.YtpkfgffgldjceaaDoor
open Go.ChangeShapes Go.WideShapes Go.ChangeAt Go.WideElems Go.RowKit
set_option linter.unusedVariables false
set_option maxRecDepth 100000

/-- The three listed variables, as the rows list them. -/
def laid3s : List (String × DataW Unit) := [("math/bits.deBruijn32tab", Rows.laid_math_bits_deBruijn32tab), ("math/bits.deBruijn64tab", Rows.laid_math_bits_deBruijn64tab), ("internal/strconv.uint64pow10", Rows.laid_internal_strconv_uint64pow10)]

theorem tTabW : (Tryd.prog.globals[0]?).map (·.type) = some 143 := by kernel_rfl

theorem pow_dataW : (Rows.laid_internal_strconv_uint64pow10 : DataW Unit) = Lib.tabData .u64 Lib.pow10Tab := by rfl

theorem of_laid3s {W : World} (h : laidMetH Tryd.prog laid3s W) : TabW W := by
  rw [MakeChecks.laidMetH_plain _ _ _ (by kernel_rfl)] at h
  obtain ⟨ps, ⟨g0, t0, cs0, f0, p0, q0, hg0, ht0, hv0, hd0, ⟨g1, t1, cs1, f1, p1, q1, hg1, ht1, hv1, hd1, ⟨g2, t2, cs2, f2, p2, q2, hg2, ht2, hv2, hd2, _, _⟩, _⟩, _⟩, _, _⟩ := h
  obtain rfl := Option.some.inj (gTabW.symm.trans hg2)
  obtain rfl := Option.some.inj (tTabW.symm.trans ht2)
  rw [pow_dataW] at hd2
  unfold TabW Lib.TabIs
  rw [hv2, ← Lib.cells_of_tab Tryd.underlying143 Tryd.underlying131 (by kernel_rfl) (by kernel_rfl) hd2]

/-- The heap that the door's own run leaves meets the condition. -/
theorem door_met3s (os : Os) (args : Array Value) : laidMetH Tryd.prog laid3s ((World.doorLaid Tryd.prog 400 os).forCall (fun _ _ => 0) ⟨#[], args, []⟩).memory :=
  laidMetH_of_parts3 (fuel := 8) (laidMet_of_run' 8 (by kernel_rfl) (by kernel_rfl)) (by kernel_rfl) (by kernel_rfl)

end Go.Proofs.YtpkfgffgldjceaaDoor

/- What is proved here: how arguments that are recents, votes and snapshots read. -/
namespace Go.Proofs.YtpkfgffgldjceaaDoor
open Go.RowKit
set_option linter.unusedVariables false
set_option maxRecDepth 100000

theorem opensRecent {H : Type} {enc : TypeId × Value → H} {w : World} {sp : Nat → Bool} {held : Bool} : Opens enc Tryd.prog w sp held (rcK) 77 := by
  intro fuel cs y hl h
  have hl' : cs.length = 2 := hl
  have f0 := opens_field (K := intK) Tryd.underlying77 h 0 _ rfl rfl rfl (by kernel_rfl) (opens_int Tryd.underlying2) (by show 0 + 1 ≤ cs.length; omega)
  have f1 := opens_field (K := bytesK) Tryd.underlying77 h 1 _ rfl rfl rfl (by kernel_rfl) (opens_bytes Tryd.underlying57 Tryd.underlying5 (by kernel_rfl)) (by show 1 + 1 ≤ cs.length; omega)
  match cs, hl' with
  | [c0, c1], _ =>
    replace f0 : ∃ e x, [c0] = (intK).vals e x ∧ (intK).Ok w e x := f0
    obtain ⟨e0, x0, q0, r0⟩ := f0
    replace f1 : ∃ e x, [c1] = (bytesK).vals e x ∧ (bytesK).Ok w e x := f1
    obtain ⟨e1, x1, q1, r1⟩ := f1
    refine ⟨(e0, e1), (x0, x1), ?_, r0, r1⟩
    show [c0, c1] = (intK).vals e0 x0 ++ ((bytesK).vals e1 x1)
    rw [← q0, ← q1]
    rfl

theorem opensVote {H : Type} {enc : TypeId × Value → H} {w : World} {sp : Nat → Bool} {held : Bool} : Opens enc Tryd.prog w sp held (vtK) 79 := by
  intro fuel cs y hl h
  have hl' : cs.length = 3 := hl
  have f0 := opens_field (K := bytesK) Tryd.underlying79 h 0 _ rfl rfl rfl (by kernel_rfl) (opens_bytes Tryd.underlying57 Tryd.underlying5 (by kernel_rfl)) (by show 0 + 1 ≤ cs.length; omega)
  have f1 := opens_field (K := bytesK) Tryd.underlying79 h 1 _ rfl rfl rfl (by kernel_rfl) (opens_bytes Tryd.underlying57 Tryd.underlying5 (by kernel_rfl)) (by show 1 + 1 ≤ cs.length; omega)
  have f2 := opens_field (K := boolK) Tryd.underlying79 h 2 _ rfl rfl rfl (by kernel_rfl) (opens_bool Tryd.underlying4) (by show 2 + 1 ≤ cs.length; omega)
  match cs, hl' with
  | [c0, c1, c2], _ =>
    replace f0 : ∃ e x, [c0] = (bytesK).vals e x ∧ (bytesK).Ok w e x := f0
    obtain ⟨e0, x0, q0, r0⟩ := f0
    replace f1 : ∃ e x, [c1] = (bytesK).vals e x ∧ (bytesK).Ok w e x := f1
    obtain ⟨e1, x1, q1, r1⟩ := f1
    replace f2 : ∃ e x, [c2] = (boolK).vals e x ∧ (boolK).Ok w e x := f2
    obtain ⟨e2, x2, q2, r2⟩ := f2
    refine ⟨(e0, e1, e2), (x0, x1, x2), ?_, r0, r1, r2⟩
    show [c0, c1, c2] = (bytesK).vals e0 x0 ++ ((bytesK).vals e1 x1 ++ ((boolK).vals e2 x2))
    rw [← q0, ← q1, ← q2]
    rfl

theorem opensSnap {H : Type} {enc : TypeId × Value → H} {w : World} {sp : Nat → Bool} {held : Bool} : Opens enc Tryd.prog w sp held (SNK) 26 := by
  intro fuel cs y hl h
  have hl' : cs.length = 4 := hl
  have f0 := opens_field (K := intK) Tryd.underlying26 h 0 _ rfl rfl rfl (by kernel_rfl) (opens_int Tryd.underlying2) (by show 0 + 1 ≤ cs.length; omega)
  have f1 := opens_field (K := rowK bytesK 57) Tryd.underlying26 h 1 _ rfl rfl rfl (by kernel_rfl) (opens_row Tryd.underlying22 (by kernel_rfl) (by decide) (opens_bytes Tryd.underlying57 Tryd.underlying5 (by kernel_rfl))) (by show 1 + 1 ≤ cs.length; omega)
  have f2 := opens_field (K := rowK rcK 60) Tryd.underlying26 h 2 _ rfl rfl rfl (by kernel_rfl) (opens_row Tryd.underlying23 (by kernel_rfl) (by decide) opensRecent) (by show 2 + 1 ≤ cs.length; omega)
  have f3 := opens_field (K := rowK vtK 62) Tryd.underlying26 h 3 _ rfl rfl rfl (by kernel_rfl) (opens_row Tryd.underlying24 (by kernel_rfl) (by decide) opensVote) (by show 3 + 1 ≤ cs.length; omega)
  match cs, hl' with
  | [c0, c1, c2, c3], _ =>
    replace f0 : ∃ e x, [c0] = (intK).vals e x ∧ (intK).Ok w e x := f0
    obtain ⟨e0, x0, q0, r0⟩ := f0
    replace f1 : ∃ e x, [c1] = (rowK bytesK 57).vals e x ∧ (rowK bytesK 57).Ok w e x := f1
    obtain ⟨e1, x1, q1, r1⟩ := f1
    replace f2 : ∃ e x, [c2] = (rowK rcK 60).vals e x ∧ (rowK rcK 60).Ok w e x := f2
    obtain ⟨e2, x2, q2, r2⟩ := f2
    replace f3 : ∃ e x, [c3] = (rowK vtK 62).vals e x ∧ (rowK vtK 62).Ok w e x := f3
    obtain ⟨e3, x3, q3, r3⟩ := f3
    refine ⟨(e0, e1, e2, e3), (x0, x1, x2, x3), ?_, r0, r1, r2, r3⟩
    show [c0, c1, c2, c3] = (intK).vals e0 x0 ++ ((rowK bytesK 57).vals e1 x1 ++ ((rowK rcK 60).vals e2 x2 ++ ((rowK vtK 62).vals e3 x3)))
    rw [← q0, ← q1, ← q2, ← q3]
    rfl

theorem open_snap {H : Type} {enc : TypeId × Value → H} {w : World} {sp : Nat → Bool} {held : Bool} {v : Value} {d : DataW H} {ps : List MemPlace} (hv : ∃ cs, v = .agg cs ∧ cs.size = Tryd.prog.cellsOf 26) (h : DataW.Trod enc Tryd.prog w 0 sp held 26 v d ps) :
    ∃ e x, v = .agg (snvals e x) ∧ SNK.Ok w e x := opens_arg opensSnap hv (by kernel_rfl) h

end Go.Proofs.YtpkfgffgldjceaaDoor

/- What is proved here: the laws' comparison of two equal text answers gives true. -/
namespace Go.Proofs.YtpkfgffgldjceaaDoor
open Go.RowKit
set_option linter.unusedVariables false
set_option maxRecDepth 100000

set_option maxHeartbeats 1000000 in
theorem eqText_same (c : Int) (t : ByteArray) (w : World) :
    Calls Tryd.prog 9 #[.agg #[.int .i64 c, .string t], .agg #[.int .i64 c, .string t]] w fun e w' => e = .returned (.bool true) ∧ Below w.heap.size w w' := by
  have h1 : (c != c) = false := by simp
  have h2 : (t.toList != t.toList) = false := by simp
  go_enter Tryd.func9, Tryd.ntmps9
  go_wp2
  go_ret
  exact ⟨rfl, ((Below.refl _ _).alloc (Nat.le_refl _) _).alloc (by simp) _⟩

end Go.Proofs.YtpkfgffgldjceaaDoor
