/- What is proved here: what the program's sameLists (slices.EqualFunc over SameBytes) and the model's l5SameLists answer. -/
import Derived.Test.YtalkhlimkanlcaaJ6
import Derived.Test.YtalkhlimkanlcaaChecked
import Derived.WalkKit
import Derived.WalkSmall
import Derived.Deep.RegionWith
import Derived.BigRegion
import Derived.BigQuiet
import Derived.Deep.QuietTactic
import Derived.WalkSpells
import Derived.KernelRfl
namespace Go.Proofs.Ytalkhlimkanlcaa
open Go.RowKit
set_option linter.unusedVariables false
set_option maxRecDepth 100000

set_option maxHeartbeats 2000000 in
theorem equalFunc_any (a b : Option Addr) (la ca lb cb : Nat) (xs ys : List (List Int)) (w : World) (ha : BsRow w a la xs) (hb : BsRow w b lb ys) (hl : la ≤ 1048576) (hl2 : lb ≤ 1048576) :
    Calls Try.prog 97 #[.slice a la ca, .slice b lb cb, .func (.func 64) #[] #[]] w fun e w' => e = .returned (.bool (sameLs xs ys)) ∧ w' = w := by
  have hxl := ha.1
  have hyl := hb.1
  by_cases hne : la = lb
  · subst hne
    have hlen : (((la : Nat) : Int) != ((la : Nat) : Int)) = false := by simp
    rcases Nat.eq_zero_or_pos la with h0 | hp
    · subst h0
      have hx : xs = [] := List.length_eq_zero_iff.1 hxl
      have hy : ys = [] := List.length_eq_zero_iff.1 hyl
      subst hx hy
      clear ha hb
      go_enter Try.func97, Try.ntmps97
      go_wp2_with fail
      refine wp_loop_rounds 1 ?_
      rw [rounds_succ]
      go_wp2_with fail
      go_ret
      exact ⟨rfl, rfl⟩
    · obtain ⟨ba, oa, rfl, hba, hca⟩ := ha.at hp
      obtain ⟨bb, ob, rfl, hbb, hcb⟩ := hb.at hp
      have HCA := hide hca
      have HCB := hide hcb
      have HXL := hide hxl
      have HYL := hide hyl
      clear ha hb hca hcb hxl hyl
      go_enter Try.func97, Try.ntmps97
      go_wp2_with fail
      go_loop [17] (fun i => ∃ k : Nat, k ≤ la ∧ i = .int .i64 k ∧ sameLs xs ys = sameLs (xs.drop k) (ys.drop k)) (fun i => la - (intOf i).toNat)
      case atStart => exact ⟨0, Nat.zero_le _, rfl, by simp⟩
      case round =>
        obtain ⟨k, hk, rfl, hpre⟩ := hrel
        by_cases hlt : k < la
        · obtain ⟨x, hix⟩ : ∃ z, xs[k]? = some z := ⟨_, List.getElem?_eq_getElem (by rw [unhide HXL]; exact hlt)⟩
          obtain ⟨y, hiy⟩ : ∃ z, ys[k]? = some z := ⟨_, List.getElem?_eq_getElem (by rw [unhide HYL]; exact hlt)⟩
          have hst := sameLs_step xs ys k x y hix hiy
          rw [← hpre] at hst
          obtain ⟨s1, n1, d1, p0, r1⟩ := (unhide HCA) k x hix
          obtain ⟨s2, n2, d2, q0, r2⟩ := (unhide HCB) k y hiy
          have HEQ := hide (implSame_any s1 s2 n1 d1 n2 d2 x y w r1 r2)
          have HS := hide hst
          have i1 : (0 : Int) ≤ (k : Int) := by omega
          have i2 : (k : Int) < (la : Int) := by omega
          clear r1 r2 hst hpre hix hiy
          generalize strEq x y = sb at HEQ HS
          go_wp2_with fail
          refine (unhide HEQ).mono ?_
          rintro e w1 ⟨rfl, rfl⟩
          cases sb
          · go_wp2_with fail
            go_ret
            exact ⟨ret_bool (by rw [unhide HS]; rfl), rfl⟩
          · go_wp2_with fail
            go_round
            case rel => exact ⟨k + 1, by omega, by go_num, by rw [unhide HS]; simp⟩
            case measure => simp [intOf]; omega
        · obtain rfl : k = la := by omega
          have e := sameLs_end xs ys k (unhide HXL) (unhide HYL)
          rw [e] at hpre
          have HE := hide hpre
          clear e hpre
          go_wp2_with fail
          go_ret
          exact ⟨ret_bool (unhide HE).symm, rfl⟩
  · have hlen : (((la : Nat) : Int) != ((lb : Nat) : Int)) = true := by simp; omega
    have HE := hide (sameLs_len xs ys (by rw [hxl, hyl]; exact hne))
    clear ha hb hxl hyl
    go_enter Try.func97, Try.ntmps97
    go_wp2_with fail
    go_ret
    exact ⟨ret_bool (unhide HE).symm, rfl⟩

theorem implSame_to (a b : Option Addr) (la ca lb cb : Nat) (xs ys : List Int) (c : Bool) (w : World) (ha : BRow w a la xs) (hb : BRow w b lb ys) (e : strEq xs ys = c) :
    Calls Try.prog 64 #[.slice a la ca, .slice b lb cb] w fun e w' => e = .returned (.bool c) ∧ w' = w := by
  subst e; exact implSame_any a b la ca lb cb xs ys w ha hb

set_option maxHeartbeats 1000000 in
theorem sameLists_to (a b : Option Addr) (la ca lb cb : Nat) (xs ys : List (List Int)) (c : Bool) (w : World) (ha : BsRow w a la xs) (hb : BsRow w b lb ys) (hl : la ≤ 1048576) (hl2 : lb ≤ 1048576) (e : sameLs xs ys = c) :
    Calls Try.prog 67 #[.slice a la ca, .slice b lb cb] w fun e w' => e = .returned (.bool c) ∧ w' = w := by
  have HF := hide (equalFunc_any a b la ca lb cb xs ys w ha hb hl hl2)
  rw [e] at HF
  clear ha hb e
  go_enter Try.func67, Try.ntmps67
  go_wp2_with fail
  refine (unhide HF).mono ?_
  rintro e w' ⟨rfl, rfl⟩
  go_wp2_with fail
  go_ret
  exact ⟨rfl, rfl⟩

set_option maxHeartbeats 2000000 in
theorem l5SameLists_any (a b : Option Addr) (la ca lb cb : Nat) (xs ys : List (List Int)) (w : World) (ha : BsRow w a la xs) (hb : BsRow w b lb ys) (hl : la ≤ 1048576) (hl2 : lb ≤ 1048576) :
    Calls Try.prog 65 #[.slice a la ca, .slice b lb cb] w fun e w' => e = .returned (.bool (sameLs xs ys)) ∧ ∃ n, w' = w.drewN n := by
  have hxl := ha.1
  have hyl := hb.1
  by_cases hne : la = lb
  · subst hne
    have hlen : (((la : Nat) : Int) != ((la : Nat) : Int)) = false := by simp
    rcases Nat.eq_zero_or_pos la with h0 | hp
    · subst h0
      have hx : xs = [] := List.length_eq_zero_iff.1 hxl
      have hy : ys = [] := List.length_eq_zero_iff.1 hyl
      subst hx hy
      clear ha hb
      go_enter Try.func65, Try.ntmps65
      go_wp2_with fail
      refine wp_loop_rounds 1 ?_
      rw [rounds_succ]
      go_wp2_with fail
      go_ret
      exact ⟨rfl, 0, rfl⟩
    · obtain ⟨ba, oa, rfl, hba, hca⟩ := ha.at hp
      obtain ⟨bb, ob, rfl, hbb, hcb⟩ := hb.at hp
      have HCA := hide hca
      have HCB := hide hcb
      have HXL := hide hxl
      have HYL := hide hyl
      clear ha hb hca hcb hxl hyl
      go_enter Try.func65, Try.ntmps65
      go_wp2_with fail
      go_loopw [5] (fun i wr => ∃ k n : Nat, k ≤ la ∧ i = .int .i64 k ∧ sameLs xs ys = sameLs (xs.drop k) (ys.drop k) ∧ wr = w.drewN n) (fun i _ => la - (intOf i).toNat)
      case atStart => exact ⟨0, 0, Nat.zero_le _, rfl, by simp, rfl⟩
      case round =>
        obtain ⟨k, n, hk, rfl, hpre, hw⟩ := hrel
        have hbw : Below w.heap.size w wr := by rw [hw]; exact below_drewN (Below.refl _ _) n
        have HW := hide hw
        clear hw
        by_cases hlt : k < la
        · obtain ⟨x, hix⟩ : ∃ z, xs[k]? = some z := ⟨_, List.getElem?_eq_getElem (by rw [unhide HXL]; exact hlt)⟩
          obtain ⟨y, hiy⟩ : ∃ z, ys[k]? = some z := ⟨_, List.getElem?_eq_getElem (by rw [unhide HYL]; exact hlt)⟩
          have hst := sameLs_step xs ys k x y hix hiy
          rw [← hpre] at hst
          obtain ⟨s1, n1, d1, p0, r1⟩ := ((unhide HCA) k x hix).below hbw (Nat.le_refl _)
          obtain ⟨s2, n2, d2, q0, r2⟩ := ((unhide HCB) k y hiy).below hbw (Nat.le_refl _)
          have HEQ := hide (fun (m : Nat) => l1Same_any s1 s2 n1 d1 n2 d2 x y (wr.drewN m) (r1.below (B := wr.heap.size) (below_drewN (Below.refl _ _) m) (Nat.le_refl _)) (r2.below (B := wr.heap.size) (below_drewN (Below.refl _ _) m) (Nat.le_refl _)))
          have HS := hide hst
          have i1 : (0 : Int) ≤ (k : Int) := by omega
          have i2 : (k : Int) < (la : Int) := by omega
          clear r1 r2 hst hpre hix hiy hbw
          generalize strEq x y = sb at HEQ HS
          go_wp2_with fail
          go_quiet ((go_at_call 66; exact Calls.quiet_of_same ((unhide HEQ) _)))
          cases sb
          · go_wp2_with fail
            go_ret
            exact ⟨ret_bool (by rw [unhide HS]; rfl), _, by rw [unhide HW]; first | rfl | exact World.drewN_drewN ..⟩
          · go_wp2_with fail
            go_roundw
            case rel => exact ⟨k + 1, _, by omega, by go_num, by rw [unhide HS]; simp, by rw [unhide HW]; first | rfl | exact World.drewN_drewN ..⟩
            case measure => simp [intOf]; omega
        · obtain rfl : k = la := by omega
          have e := sameLs_end xs ys k (unhide HXL) (unhide HYL)
          rw [e] at hpre
          have HE := hide hpre
          clear e hpre
          go_wp2_with fail
          go_ret
          exact ⟨ret_bool (unhide HE).symm, n, unhide HW⟩
  · have hlen : (((la : Nat) : Int) != ((lb : Nat) : Int)) = true := by simp; omega
    have HE := hide (sameLs_len xs ys (by rw [hxl, hyl]; exact hne))
    clear ha hb hxl hyl
    go_enter Try.func65, Try.ntmps65
    go_wp2_with fail
    go_ret
    exact ⟨ret_bool (unhide HE).symm, 0, rfl⟩

end Go.Proofs.Ytalkhlimkanlcaa

/- What is proved here: what the program's SameSnaps answers, and what it calls. -/
namespace Go.Proofs.Ytalkhlimkanlcaa
open Go.RowKit
set_option linter.unusedVariables false
set_option maxRecDepth 100000

theorem implSame_kd (s t : Sl) (x y : List Int) (w : World) (o : BOk w s x) (q : BOk w t y) :
    Calls Try.prog 64 #[.slice s.a s.n s.c, .slice t.a t.n t.c] w fun e w' => e = .returned (.bool (decide (x = y))) ∧ w' = w := by
  rw [← strEq_dec o.row.2.1 q.row.2.1]
  exact implSame_any s.a t.a s.n s.c t.n t.c x y w o.row q.row

theorem l1Same_kd (s t : Sl) (x y : List Int) (w : World) (o : BOk w s x) (q : BOk w t y) :
    Calls Try.prog 66 #[.slice s.a s.n s.c, .slice t.a t.n t.c] w fun e w' => e = .returned (.bool (decide (x = y))) ∧ w' = w := by
  rw [← strEq_dec o.row.2.1 q.row.2.1]
  exact l1Same_any s.a t.a s.n s.c t.n t.c x y w o.row q.row

set_option maxHeartbeats 1000000 in
theorem isSameRecent_any (n0x : Int) (s1x : Sl) (z1x : List Int) (n0y : Int) (s1y : Sl) (z1y : List Int) (w : World) (o0 : BOk w s1x z1x) (q0 : BOk w s1y z1y) :
    Calls Try.prog 69 #[.agg #[.int .i64 n0x, .slice s1x.a s1x.n s1x.c], .agg #[.int .i64 n0y, .slice s1y.a s1y.n s1y.c]] w fun e w' => e = .returned (.bool (decide ((n0x, z1x) = (n0y, z1y)))) ∧ Below w.heap.size w w' := by
  have HB := hide (below_two' w (.cells #[.int .i64 n0x, .slice s1x.a s1x.n s1x.c] 87) (.cells #[.int .i64 n0y, .slice s1y.a s1y.n s1y.c] 87))
  have D0 := hide (fun (W : World) (hb : Below w.heap.size w W) => implSame_kd s1x s1y z1x z1y W (bytesK.below o0 hb (Nat.le_refl _)) (bytesK.below q0 hb (Nat.le_refl _)))
  have HE : Hid (decide ((n0x, z1x) = (n0y, z1y)) = (decide (n0x = n0y) && decide (z1x = z1y))) := by show _ = _; simp only [Prod.mk.injEq, Bool.decide_and]
  clear o0 q0
  generalize decide ((n0x, z1x) = (n0y, z1y)) = sa at HE ⊢
  have e0 : (n0x == n0y) = decide (n0x = n0y) := by by_cases h : n0x = n0y <;> simp [h]
  generalize decide (n0x = n0y) = c0 at e0 HE
  generalize decide (z1x = z1y) = c1 at D0 HE
  go_enter Try.func69, Try.ntmps69
  cases c0
  · go_wp2_with fail
    go_ret
    exact ⟨ret_bool (by rw [unhide HE]; first | rfl | simp), unhide HB⟩
  go_wp2_with fail
  refine ((unhide D0) _ (unhide HB)).mono ?_
  rintro e w0 ⟨rfl, rfl⟩
  go_wp2_with fail
  go_ret
  exact ⟨ret_bool (by rw [unhide HE]; first | rfl | simp), unhide HB⟩

set_option maxHeartbeats 1000000 in
theorem isSameVote_any (s0x : Sl) (z0x : List Int) (s1x : Sl) (z1x : List Int) (b2x : Bool) (s0y : Sl) (z0y : List Int) (s1y : Sl) (z1y : List Int) (b2y : Bool) (w : World) (o0 : BOk w s0x z0x) (q0 : BOk w s0y z0y) (o1 : BOk w s1x z1x) (q1 : BOk w s1y z1y) :
    Calls Try.prog 71 #[.agg #[.slice s0x.a s0x.n s0x.c, .slice s1x.a s1x.n s1x.c, .bool b2x], .agg #[.slice s0y.a s0y.n s0y.c, .slice s1y.a s1y.n s1y.c, .bool b2y]] w fun e w' => e = .returned (.bool (decide ((z0x, z1x, b2x) = (z0y, z1y, b2y)))) ∧ Below w.heap.size w w' := by
  have HB := hide (below_two' w (.cells #[.slice s0x.a s0x.n s0x.c, .slice s1x.a s1x.n s1x.c, .bool b2x] 89) (.cells #[.slice s0y.a s0y.n s0y.c, .slice s1y.a s1y.n s1y.c, .bool b2y] 89))
  have D0 := hide (fun (W : World) (hb : Below w.heap.size w W) => implSame_kd s0x s0y z0x z0y W (bytesK.below o0 hb (Nat.le_refl _)) (bytesK.below q0 hb (Nat.le_refl _)))
  have D1 := hide (fun (W : World) (hb : Below w.heap.size w W) => implSame_kd s1x s1y z1x z1y W (bytesK.below o1 hb (Nat.le_refl _)) (bytesK.below q1 hb (Nat.le_refl _)))
  have HE : Hid (decide ((z0x, z1x, b2x) = (z0y, z1y, b2y)) = (decide (z0x = z0y) && (decide (z1x = z1y) && decide (b2x = b2y)))) := by show _ = _; simp only [Prod.mk.injEq, Bool.decide_and]
  clear o0 q0 o1 q1
  generalize decide ((z0x, z1x, b2x) = (z0y, z1y, b2y)) = sa at HE ⊢
  generalize decide (z0x = z0y) = c0 at D0 HE
  generalize decide (z1x = z1y) = c1 at D1 HE
  have e2 : (b2x == b2y) = decide (b2x = b2y) := by cases b2x <;> cases b2y <;> rfl
  generalize decide (b2x = b2y) = c2 at e2 HE
  go_enter Try.func71, Try.ntmps71
  go_wp2_with fail
  refine ((unhide D0) _ (unhide HB)).mono ?_
  rintro e w0 ⟨rfl, rfl⟩
  cases c0
  · go_wp2_with fail
    go_ret
    exact ⟨ret_bool (by rw [unhide HE]; first | rfl | simp), unhide HB⟩
  go_wp2_with fail
  refine ((unhide D1) _ (unhide HB)).mono ?_
  rintro e w1 ⟨rfl, rfl⟩
  cases c1
  · go_wp2_with fail
    go_ret
    exact ⟨ret_bool (by rw [unhide HE]; first | rfl | simp), unhide HB⟩
  go_wp2_with fail
  go_ret
  exact ⟨ret_bool (by rw [unhide HE]; first | rfl | simp), unhide HB⟩

set_option maxHeartbeats 2000000 in
theorem equalFuncRecent_any (s t : Sl) (xs ys : List Rc) (w : World) (ha : RowOk rcK w s xs) (hb : RowOk rcK w t ys) (hl : xs.length ≤ 1048576) (hl2 : ys.length ≤ 1048576) :
    Calls Try.prog 68 #[.slice s.a s.n s.c, .slice t.a t.n t.c, .func (.func 69) #[] #[]] w fun e w' => e = .returned (.bool (decide (xs = ys))) ∧ Below w.heap.size w w' := by
  obtain ⟨a, la, ca⟩ := s
  obtain ⟨b, lb, cb⟩ := t
  have hxl : la = xs.length := ha.len
  have hyl : lb = ys.length := hb.len
  by_cases hne : la = lb
  · subst hne
    have hlen : (((la : Nat) : Int) != ((la : Nat) : Int)) = false := by simp
    rcases Nat.eq_zero_or_pos la with h0 | hp
    · subst h0
      obtain rfl : xs = [] := List.length_eq_zero_iff.1 hxl.symm
      obtain rfl : ys = [] := List.length_eq_zero_iff.1 hyl.symm
      clear ha hb hxl hyl hl hl2
      go_enter Try.func68, Try.ntmps68
      go_wp2_with fail
      refine wp_loop_rounds 1 ?_
      rw [rounds_succ]
      go_wp2_with fail
      go_ret
      exact ⟨rfl, Below.refl _ _⟩
    · obtain ⟨ba, oa, ea, hba, hca⟩ := ha.pos hp
      obtain ⟨bb, ob, eb, hbb, hcb⟩ := hb.pos hp
      simp only at ea eb
      subst ea eb
      have HCA := hide (fun (W : World) (hbl : Below w.heap.size w W) (i : Nat) (x : Rc) (hx : xs[i]? = some x) => match hca i x hx with | ⟨e, c, o⟩ => (⟨e, fun j v hv => (hbl.cell (p := ⟨ba, oa + i * rcK.m + j, none⟩) hba).trans (c j v hv), rcK.below o hbl (Nat.le_refl _)⟩ : ∃ e, (∀ j v, (rcK.vals e x)[j]? = some v → W.cell? ⟨ba, oa + i * rcK.m + j, none⟩ = some v) ∧ rcK.Ok W e x))
      have HCB := hide (fun (W : World) (hbl : Below w.heap.size w W) (i : Nat) (x : Rc) (hx : ys[i]? = some x) => match hcb i x hx with | ⟨e, c, o⟩ => (⟨e, fun j v hv => (hbl.cell (p := ⟨bb, ob + i * rcK.m + j, none⟩) hbb).trans (c j v hv), rcK.below o hbl (Nat.le_refl _)⟩ : ∃ e, (∀ j v, (rcK.vals e x)[j]? = some v → W.cell? ⟨bb, ob + i * rcK.m + j, none⟩ = some v) ∧ rcK.Ok W e x))
      have HXL := hide hxl
      have HYL := hide hyl
      have hla : la ≤ 1048576 := by omega
      clear ha hb hca hcb hxl hyl hl hl2
      go_enter Try.func68, Try.ntmps68
      go_wp2_with fail
      go_loopw [17] (fun i wr => ∃ k : Nat, k ≤ la ∧ i = .int .i64 k ∧ decide (xs = ys) = decide (xs.drop k = ys.drop k) ∧ Below w.heap.size w wr) (fun i _ => la - (intOf i).toNat)
      case atStart => exact ⟨0, Nat.zero_le _, rfl, by simp, Below.refl _ _⟩
      case round =>
        obtain ⟨k, hk, rfl, hpre, hbr⟩ := hrel
        by_cases hlt : k < la
        · obtain ⟨x, hix⟩ : ∃ it, xs[k]? = some it := ⟨_, List.getElem?_eq_getElem (by rw [← unhide HXL]; exact hlt)⟩
          obtain ⟨y, hiy⟩ : ∃ it, ys[k]? = some it := ⟨_, List.getElem?_eq_getElem (by rw [← unhide HYL]; exact hlt)⟩
          have hst := drop_same xs ys k x y hix hiy
          rw [← hpre] at hst
          obtain ⟨⟨⟨⟩, s1x⟩, c, o⟩ := (unhide HCA) wr hbr k x hix
          obtain ⟨⟨⟨⟩, s1y⟩, d, q⟩ := (unhide HCB) wr hbr k y hiy
          obtain ⟨n0x, z1x⟩ := x
          obtain ⟨n0y, z1y⟩ := y
          have c0 := c 0 _ rfl
          have d0 := d 0 _ rfl
          have c1 := c 1 _ rfl
          have d1 := d 1 _ rfl
          simp only [Nat.add_zero, show rcK.m = 2 from rfl] at c0 d0 c1 d1
          have hbr2 : bb < wr.heap.size := Nat.lt_of_lt_of_le hbb hbr.size
          have D0 : ∀ o, (wr.alloc o).cell? ⟨bb, ob + k * 2, none⟩ = some (.int .i64 n0y) := fun o => ((below_alloc wr o).cell (p := ⟨bb, _, none⟩) hbr2).trans d0
          have D1 : ∀ o, (wr.alloc o).cell? ⟨bb, ob + k * 2 + 1, none⟩ = some (.slice s1y.a s1y.n s1y.c) := fun o => ((below_alloc wr o).cell (p := ⟨bb, _, none⟩) hbr2).trans d1
          clear hbr2 d0 d1
          have HEQ := hide (fun (W : World) (hbl : Below wr.heap.size wr W) => isSameRecent_any n0x s1x z1x n0y s1y z1y W (bytesK.below o.2 hbl (Nat.le_refl _)) (bytesK.below q.2 hbl (Nat.le_refl _)))
          have HS := hide hst
          have HB := hide hbr
          have i1 : (0 : Int) ≤ (k : Int) := by omega
          have i2 : (k : Int) < (la : Int) := by omega
          clear c d o q hst hpre hbr hix hiy
          generalize decide ((n0x, z1x) = (n0y, z1y)) = sb at HEQ HS
          go_wp2_with fail
          refine ((unhide HEQ) _ (by first | exact below_two' _ _ _ | exact below_alloc _ _)).mono ?_
          rintro e w1 ⟨rfl, b1⟩
          have b2 : Below wr.heap.size wr w1 := Below.trans (by first | exact below_two' _ _ _ | exact below_alloc _ _) (b1.mono (by simp; try omega))
          have HB1 := hide ((unhide HB).trans (b2.mono (unhide HB).size))
          clear b1 b2
          cases sb
          · go_wp2_with fail
            go_ret
            exact ⟨ret_bool (by rw [unhide HS]; rfl), unhide HB1⟩
          · go_wp2_with fail
            go_roundw
            case rel => exact ⟨k + 1, by omega, by go_num, by rw [unhide HS]; simp, unhide HB1⟩
            case measure => simp [intOf]; omega
        · obtain rfl : k = la := by omega
          rw [List.drop_eq_nil_of_le (by rw [← unhide HXL]; exact Nat.le_refl _), List.drop_eq_nil_of_le (by rw [← unhide HYL]; exact Nat.le_refl _)] at hpre
          have HE := hide hpre
          clear hpre
          go_wp2_with fail
          go_ret
          exact ⟨ret_bool (by rw [unhide HE]; rfl), hbr⟩
  · have hlen : (((la : Nat) : Int) != ((lb : Nat) : Int)) = true := by simp; omega
    have HE : Hid (decide (xs = ys) = false) := decide_eq_false (fun e => hne (by rw [hxl, hyl, e]))
    clear ha hb hxl hyl
    go_enter Try.func68, Try.ntmps68
    go_wp2_with fail
    go_ret
    exact ⟨ret_bool (unhide HE).symm, Below.refl _ _⟩

set_option maxHeartbeats 2000000 in
theorem equalFuncVote_any (s t : Sl) (xs ys : List Vt) (w : World) (ha : RowOk vtK w s xs) (hb : RowOk vtK w t ys) (hl : xs.length ≤ 1048576) (hl2 : ys.length ≤ 1048576) :
    Calls Try.prog 70 #[.slice s.a s.n s.c, .slice t.a t.n t.c, .func (.func 71) #[] #[]] w fun e w' => e = .returned (.bool (decide (xs = ys))) ∧ Below w.heap.size w w' := by
  obtain ⟨a, la, ca⟩ := s
  obtain ⟨b, lb, cb⟩ := t
  have hxl : la = xs.length := ha.len
  have hyl : lb = ys.length := hb.len
  by_cases hne : la = lb
  · subst hne
    have hlen : (((la : Nat) : Int) != ((la : Nat) : Int)) = false := by simp
    rcases Nat.eq_zero_or_pos la with h0 | hp
    · subst h0
      obtain rfl : xs = [] := List.length_eq_zero_iff.1 hxl.symm
      obtain rfl : ys = [] := List.length_eq_zero_iff.1 hyl.symm
      clear ha hb hxl hyl hl hl2
      go_enter Try.func70, Try.ntmps70
      go_wp2_with fail
      refine wp_loop_rounds 1 ?_
      rw [rounds_succ]
      go_wp2_with fail
      go_ret
      exact ⟨rfl, Below.refl _ _⟩
    · obtain ⟨ba, oa, ea, hba, hca⟩ := ha.pos hp
      obtain ⟨bb, ob, eb, hbb, hcb⟩ := hb.pos hp
      simp only at ea eb
      subst ea eb
      have HCA := hide (fun (W : World) (hbl : Below w.heap.size w W) (i : Nat) (x : Vt) (hx : xs[i]? = some x) => match hca i x hx with | ⟨e, c, o⟩ => (⟨e, fun j v hv => (hbl.cell (p := ⟨ba, oa + i * vtK.m + j, none⟩) hba).trans (c j v hv), vtK.below o hbl (Nat.le_refl _)⟩ : ∃ e, (∀ j v, (vtK.vals e x)[j]? = some v → W.cell? ⟨ba, oa + i * vtK.m + j, none⟩ = some v) ∧ vtK.Ok W e x))
      have HCB := hide (fun (W : World) (hbl : Below w.heap.size w W) (i : Nat) (x : Vt) (hx : ys[i]? = some x) => match hcb i x hx with | ⟨e, c, o⟩ => (⟨e, fun j v hv => (hbl.cell (p := ⟨bb, ob + i * vtK.m + j, none⟩) hbb).trans (c j v hv), vtK.below o hbl (Nat.le_refl _)⟩ : ∃ e, (∀ j v, (vtK.vals e x)[j]? = some v → W.cell? ⟨bb, ob + i * vtK.m + j, none⟩ = some v) ∧ vtK.Ok W e x))
      have HXL := hide hxl
      have HYL := hide hyl
      have hla : la ≤ 1048576 := by omega
      clear ha hb hca hcb hxl hyl hl hl2
      go_enter Try.func70, Try.ntmps70
      go_wp2_with fail
      go_loopw [17] (fun i wr => ∃ k : Nat, k ≤ la ∧ i = .int .i64 k ∧ decide (xs = ys) = decide (xs.drop k = ys.drop k) ∧ Below w.heap.size w wr) (fun i _ => la - (intOf i).toNat)
      case atStart => exact ⟨0, Nat.zero_le _, rfl, by simp, Below.refl _ _⟩
      case round =>
        obtain ⟨k, hk, rfl, hpre, hbr⟩ := hrel
        by_cases hlt : k < la
        · obtain ⟨x, hix⟩ : ∃ it, xs[k]? = some it := ⟨_, List.getElem?_eq_getElem (by rw [← unhide HXL]; exact hlt)⟩
          obtain ⟨y, hiy⟩ : ∃ it, ys[k]? = some it := ⟨_, List.getElem?_eq_getElem (by rw [← unhide HYL]; exact hlt)⟩
          have hst := drop_same xs ys k x y hix hiy
          rw [← hpre] at hst
          obtain ⟨⟨s0x, s1x, ⟨⟩⟩, c, o⟩ := (unhide HCA) wr hbr k x hix
          obtain ⟨⟨s0y, s1y, ⟨⟩⟩, d, q⟩ := (unhide HCB) wr hbr k y hiy
          obtain ⟨z0x, z1x, b2x⟩ := x
          obtain ⟨z0y, z1y, b2y⟩ := y
          have c0 := c 0 _ rfl
          have d0 := d 0 _ rfl
          have c1 := c 1 _ rfl
          have d1 := d 1 _ rfl
          have c2 := c 2 _ rfl
          have d2 := d 2 _ rfl
          simp only [Nat.add_zero, show vtK.m = 3 from rfl] at c0 d0 c1 d1 c2 d2
          have hbr2 : bb < wr.heap.size := Nat.lt_of_lt_of_le hbb hbr.size
          have D0 : ∀ o, (wr.alloc o).cell? ⟨bb, ob + k * 3, none⟩ = some (.slice s0y.a s0y.n s0y.c) := fun o => ((below_alloc wr o).cell (p := ⟨bb, _, none⟩) hbr2).trans d0
          have D1 : ∀ o, (wr.alloc o).cell? ⟨bb, ob + k * 3 + 1, none⟩ = some (.slice s1y.a s1y.n s1y.c) := fun o => ((below_alloc wr o).cell (p := ⟨bb, _, none⟩) hbr2).trans d1
          have D2 : ∀ o, (wr.alloc o).cell? ⟨bb, ob + k * 3 + 2, none⟩ = some (.bool b2y) := fun o => ((below_alloc wr o).cell (p := ⟨bb, _, none⟩) hbr2).trans d2
          clear hbr2 d0 d1 d2
          have HEQ := hide (fun (W : World) (hbl : Below wr.heap.size wr W) => isSameVote_any s0x z0x s1x z1x b2x s0y z0y s1y z1y b2y W (bytesK.below o.1 hbl (Nat.le_refl _)) (bytesK.below q.1 hbl (Nat.le_refl _)) (bytesK.below o.2.1 hbl (Nat.le_refl _)) (bytesK.below q.2.1 hbl (Nat.le_refl _)))
          have HS := hide hst
          have HB := hide hbr
          have i1 : (0 : Int) ≤ (k : Int) := by omega
          have i2 : (k : Int) < (la : Int) := by omega
          clear c d o q hst hpre hbr hix hiy
          generalize decide ((z0x, z1x, b2x) = (z0y, z1y, b2y)) = sb at HEQ HS
          go_wp2_with fail
          refine ((unhide HEQ) _ (by first | exact below_two' _ _ _ | exact below_alloc _ _)).mono ?_
          rintro e w1 ⟨rfl, b1⟩
          have b2 : Below wr.heap.size wr w1 := Below.trans (by first | exact below_two' _ _ _ | exact below_alloc _ _) (b1.mono (by simp; try omega))
          have HB1 := hide ((unhide HB).trans (b2.mono (unhide HB).size))
          clear b1 b2
          cases sb
          · go_wp2_with fail
            go_ret
            exact ⟨ret_bool (by rw [unhide HS]; rfl), unhide HB1⟩
          · go_wp2_with fail
            go_roundw
            case rel => exact ⟨k + 1, by omega, by go_num, by rw [unhide HS]; simp, unhide HB1⟩
            case measure => simp [intOf]; omega
        · obtain rfl : k = la := by omega
          rw [List.drop_eq_nil_of_le (by rw [← unhide HXL]; exact Nat.le_refl _), List.drop_eq_nil_of_le (by rw [← unhide HYL]; exact Nat.le_refl _)] at hpre
          have HE := hide hpre
          clear hpre
          go_wp2_with fail
          go_ret
          exact ⟨ret_bool (by rw [unhide HE]; rfl), hbr⟩
  · have hlen : (((la : Nat) : Int) != ((lb : Nat) : Int)) = true := by simp; omega
    have HE : Hid (decide (xs = ys) = false) := decide_eq_false (fun e => hne (by rw [hxl, hyl, e]))
    clear ha hb hxl hyl
    go_enter Try.func70, Try.ntmps70
    go_wp2_with fail
    go_ret
    exact ⟨ret_bool (unhide HE).symm, Below.refl _ _⟩

theorem sameLs_dec : ∀ (a b : List (List Int)), (∀ z ∈ a, ∀ x ∈ z, 0 ≤ x ∧ x ≤ 255) → (∀ z ∈ b, ∀ x ∈ z, 0 ≤ x ∧ x ≤ 255) → sameLs a b = decide (a = b)
  | [], [], _, _ => rfl
  | [], _ :: _, _, _ => by simp [sameLs]
  | _ :: _, [], _, _ => by simp [sameLs]
  | a :: r, b :: t, ha, hb => by
    rw [sameLs, sameLs_dec r t (fun z hz => ha z (by simp [hz])) (fun z hz => hb z (by simp [hz])), strEq_dec (ha a (by simp)) (hb b (by simp))]
    simp [Bool.decide_and]

set_option maxHeartbeats 4000000 in
theorem implSameSnaps_any (e f : SnS) (x y : Sn) (w : World) (o : SNK.Ok w e x) (q : SNK.Ok w f y) (m : SnSm x) (m' : SnSm y) :
    Calls Try.prog 33 #[.agg (snvals e x), .agg (snvals f y)] w fun r w' => r = .returned (.bool (snSame x y)) ∧ Below w.heap.size w w' := by
  have ka := SBlk.new w (snvals e x) 32
  have ba := below_alloc w (.cells (snvals e x) 32)
  have za : (w.alloc (.cells (snvals e x) 32)).heap.size = w.heap.size + 1 := by simp
  obtain ⟨W0, ea⟩ : ∃ W0, w.alloc (.cells (snvals e x) 32) = W0 := ⟨_, rfl⟩
  rw [ea] at ka ba za
  have kb := SBlk.new W0 (snvals f y) 32
  have k1 := ka.next (.cells (snvals f y) 32)
  have bb := ba.trans ((below_alloc W0 (.cells (snvals f y) 32)).mono ba.size)
  obtain ⟨W1, eb⟩ : ∃ W1, W0.alloc (.cells (snvals f y) 32) = W1 := ⟨_, rfl⟩
  rw [za] at kb
  rw [eb] at kb k1 bb
  obtain ⟨e0, e1, e2, e3⟩ := e
  obtain ⟨f0, f1, f2, f3⟩ := f
  obtain ⟨x0, x1, x2, x3⟩ := x
  obtain ⟨y0, y1, y2, y3⟩ := y
  have D1 : Hid (Calls Try.prog 67 #[.slice e1.a e1.n e1.c, .slice f1.a f1.n f1.c] W1 fun r w' => r = .returned (.bool (decide (x1 = y1))) ∧ w' = W1) :=
    sameLists_to e1.a f1.a e1.n e1.c f1.n f1.c x1 y1 (decide (x1 = y1)) W1 ((bs_of_row o.2.1).below bb (Nat.le_refl _)) ((bs_of_row q.2.1).below bb (Nat.le_refl _)) (by have := o.2.1.len; have := m.s; simp only at *; omega) (by have := q.2.1.len; have := m'.s; simp only at *; omega) (sameLs_dec _ _ (bs_of_row o.2.1).bytes (bs_of_row q.2.1).bytes)
  have D2 := hide (equalFuncRecent_any e2 f2 x2 y2 W1 (o.2.2.1.below bb (Nat.le_refl _)) (q.2.2.1.below bb (Nat.le_refl _)) m.r m'.r)
  have D3 := hide (fun (W : World) (hb : Below W1.heap.size W1 W) => equalFuncVote_any e3 f3 x3 y3 W (o.2.2.2.below (bb.trans (hb.mono bb.size)) (Nat.le_refl _)) (q.2.2.2.below (bb.trans (hb.mono bb.size)) (Nat.le_refl _)) m.v m'.v)
  have HKA := hide (fun (W : World) (hb : Below W1.heap.size W1 W) => k1.below hb k1.lt)
  have HKB := hide (fun (W : World) (hb : Below W1.heap.size W1 W) => kb.below hb kb.lt)
  have HBB := hide bb
  have HE : Hid (snSame (x0, x1, x2, x3) (y0, y1, y2, y3) = (decide (x0 = y0) && (decide (x1 = y1) && (decide (x2 = y2) && decide (x3 = y3))))) := rfl
  have u0 := k1.cell 0
  have u1 := k1.cell 1
  have u2 := k1.cell 2
  have u3 := k1.cell 3
  have v0 := kb.cell 0
  have v1 := kb.cell 1
  have v2 := kb.cell 2
  have v3 := kb.cell 3
  simp only [snvals, List.getElem?_cons_zero, List.getElem?_cons_succ] at u0 u1 u2 u3 v0 v1 v2 v3
  have c0 : (x0 == y0) = decide (x0 = y0) := by by_cases h : x0 = y0 <;> simp [h]
  have EA := hide ea
  have EB := hide eb
  clear ea eb ka kb k1 ba bb o q m m' za
  unfold snvals at EA EB ⊢
  simp only at EA EB ⊢
  generalize decide (x0 = y0) = s0 at c0 HE
  generalize decide (x1 = y1) = s1 at D1 HE
  generalize decide (x2 = y2) = s2 at D2 HE
  generalize decide (x3 = y3) = s3 at D3 HE
  generalize snSame (x0, x1, x2, x3) (y0, y1, y2, y3) = sa at HE ⊢
  go_enter Try.func33, Try.ntmps33
  go_upto_region 1 with fail
  rw [unhide EA, unhide EB]
  clear EA EB
  go_wp2_with fail
  refine (unhide D1).mono ?_
  rintro r w2 ⟨rfl, rfl⟩
  cases s1
  · cases s0
    all_goals
      go_wp2_with fail
      go_ret
      exact ⟨ret_bool (by rw [unhide HE]; simp), unhide HBB⟩
  go_wp2_with fail
  refine (unhide D2).mono ?_
  rintro r w3 ⟨rfl, b3⟩
  have B3 := hide b3
  have p0 := ((unhide HKA) w3 (unhide B3)).cell 0
  have q0 := ((unhide HKB) w3 (unhide B3)).cell 0
  have p3 := ((unhide HKA) w3 (unhide B3)).cell 3
  have q3 := ((unhide HKB) w3 (unhide B3)).cell 3
  simp only [snvals, List.getElem?_cons_zero, List.getElem?_cons_succ] at p0 q0 p3 q3
  have HB3 := hide ((unhide HBB).trans (b3.mono (unhide HBB).size))
  clear b3
  cases s2
  · cases s0
    all_goals
      go_wp2_with fail
      go_ret
      exact ⟨ret_bool (by rw [unhide HE]; simp), unhide HB3⟩
  cases s0
  · go_wp2_with fail
    go_ret
    exact ⟨ret_bool (by rw [unhide HE]; simp), unhide HB3⟩
  go_wp2_with fail
  refine ((unhide D3) _ (unhide B3)).mono ?_
  rintro r w4 ⟨rfl, b4⟩
  have HB4 := hide ((unhide HB3).trans (b4.mono (unhide HB3).size))
  clear b4
  go_wp2_with fail
  go_ret
  exact ⟨ret_bool (by rw [unhide HE]; simp), unhide HB4⟩

end Go.Proofs.Ytalkhlimkanlcaa

/- What is proved here: what the model's SameSnaps answers. -/
namespace Go.Proofs.Ytalkhlimkanlcaa
open Go.RowKit
set_option linter.unusedVariables false
set_option maxRecDepth 100000

theorem cell_rows {α β : Type} {K : Kd α β} {w : World} {b off : Nat} {xs : List α} (hb : b < w.heap.size) (hc : ∀ i x, xs[i]? = some x → ∃ e, (∀ j v, (K.vals e x)[j]? = some v → w.cell? ⟨b, off + i * K.m + j, none⟩ = some v) ∧ K.Ok w e x)
    (W : World) (hbl : Below w.heap.size w W) (i : Nat) (x : α) (hx : xs[i]? = some x) : ∃ e, (∀ j v, (K.vals e x)[j]? = some v → W.cell? ⟨b, off + i * K.m + j, none⟩ = some v) ∧ K.Ok W e x := by
  obtain ⟨e, c, o⟩ := hc i x hx
  exact ⟨e, fun j v hv => (hbl.cell (p := ⟨b, off + i * K.m + j, none⟩) hb).trans (c j v hv), K.below o hbl (Nat.le_refl _)⟩

/-- Rows of a kind at a place, in every world that came of this one. -/
theorem RowOk.at {α β : Type} {K : Kd α β} {w : World} {s : Sl} {xs : List α} (h : RowOk K w s xs) (hp : 0 < s.n) :
    ∃ b off, s.a = some ⟨b, off, none⟩ ∧ b < w.heap.size ∧ ∀ W, Below w.heap.size w W → ∀ i x, xs[i]? = some x → ∃ e, (∀ j v, (K.vals e x)[j]? = some v → W.cell? ⟨b, off + i * K.m + j, none⟩ = some v) ∧ K.Ok W e x := by
  obtain ⟨b, off, ha, hb, hc⟩ := h.pos hp
  exact ⟨b, off, ha, hb, fun W hbl i x hx => cell_rows hb hc W hbl i x hx⟩

set_option maxHeartbeats 8000000 in
theorem specSameSnaps_any (e f : SnS) (x y : Sn) (w : World) (o : SNK.Ok w e x) (q : SNK.Ok w f y) (m : SnSm x) (m' : SnSm y) :
    Calls Try.prog 32 #[.agg (snvals e x), .agg (snvals f y)] w fun r w' => r = .returned (.bool (snSame x y)) ∧ Below w.heap.size w w' := by
  have ka := SBlk.new w (snvals e x) 32
  have ba := below_alloc w (.cells (snvals e x) 32)
  have za : (w.alloc (.cells (snvals e x) 32)).heap.size = w.heap.size + 1 := by simp
  obtain ⟨W0, ea⟩ : ∃ W0, w.alloc (.cells (snvals e x) 32) = W0 := ⟨_, rfl⟩
  rw [ea] at ka ba za
  have kb := SBlk.new W0 (snvals f y) 32
  have k1 := ka.next (.cells (snvals f y) 32)
  have bb := ba.trans ((below_alloc W0 (.cells (snvals f y) 32)).mono ba.size)
  obtain ⟨W1, eb⟩ : ∃ W1, W0.alloc (.cells (snvals f y) 32) = W1 := ⟨_, rfl⟩
  rw [za] at kb
  rw [eb] at kb k1 bb
  obtain ⟨e0, e1, e2, e3⟩ := e
  obtain ⟨f0, f1, f2, f3⟩ := f
  obtain ⟨x0, x1, x2, x3⟩ := x
  obtain ⟨y0, y1, y2, y3⟩ := y
  have D1 : Hid (Calls Try.prog 65 #[.slice e1.a e1.n e1.c, .slice f1.a f1.n f1.c] W1 fun r w' => r = .returned (.bool (decide (x1 = y1))) ∧ ∃ n', w' = W1.drewN n') := by
    have bn := bb
    show Calls _ _ _ _ _
    rw [← sameLs_dec _ _ (bs_of_row o.2.1).bytes (bs_of_row q.2.1).bytes]
    exact l5SameLists_any e1.a f1.a e1.n e1.c f1.n f1.c x1 y1 _ ((bs_of_row o.2.1).below bn (Nat.le_refl _)) ((bs_of_row q.2.1).below bn (Nat.le_refl _)) (by have := o.2.1.len; have := m.s; simp only at *; omega) (by have := q.2.1.len; have := m'.s; simp only at *; omega)
  have HKA := hide (fun (W : World) (hb : Below W1.heap.size W1 W) => k1.below hb k1.lt)
  have HKB := hide (fun (W : World) (hb : Below W1.heap.size W1 W) => kb.below hb kb.lt)
  have HBB := hide bb
  have l2x : e2.n = x2.length := o.2.2.1.len
  have l2y : f2.n = y2.length := q.2.2.1.len
  have l3x : e3.n = x3.length := o.2.2.2.len
  have l3y : f3.n = y3.length := q.2.2.2.len
  have m2 : e2.n ≤ 1048576 := by have : x2.length ≤ 1048576 := m.r; omega
  have m2' : f2.n ≤ 1048576 := by have : y2.length ≤ 1048576 := m'.r; omega
  have m3 : e3.n ≤ 1048576 := by have : x3.length ≤ 1048576 := m.v; omega
  have m3' : f3.n ≤ 1048576 := by have : y3.length ≤ 1048576 := m'.v; omega
  have HL := hide (And.intro l2x (And.intro l2y (And.intro l3x l3y)))
  clear l2x l2y l3x l3y
  have HR := hide (fun hp => (o.2.2.1.below bb (Nat.le_refl _)).at hp)
  have HR' := hide (fun hp => (q.2.2.1.below bb (Nat.le_refl _)).at hp)
  have HV := hide (fun hp => (o.2.2.2.below bb (Nat.le_refl _)).at hp)
  have HV' := hide (fun hp => (q.2.2.2.below bb (Nat.le_refl _)).at hp)
  have HE : Hid (snSame (x0, x1, x2, x3) (y0, y1, y2, y3) = (decide (x0 = y0) && (decide (x1 = y1) && (decide (x2 = y2) && decide (x3 = y3))))) := rfl
  have u0 := k1.cell 0
  have u1 := k1.cell 1
  have u2 := k1.cell 2
  have u3 := k1.cell 3
  have v0 := kb.cell 0
  have v1 := kb.cell 1
  have v2 := kb.cell 2
  have v3 := kb.cell 3
  simp only [snvals, List.getElem?_cons_zero, List.getElem?_cons_succ] at u0 u1 u2 u3 v0 v1 v2 v3
  have EA := hide ea
  have EB := hide eb
  clear ea eb ka kb k1 ba bb o q m m' za
  unfold snvals at EA EB ⊢
  simp only at EA EB ⊢
  by_cases n0 : x0 = y0
  case neg =>
    have c0 : (x0 != y0) = true := by simp [n0]
    have HE' : Hid (snSame (x0, x1, x2, x3) (y0, y1, y2, y3) = false) := by show _ = _; rw [unhide HE]; simp [n0]
    go_enter Try.func32, Try.ntmps32
    go_upto_region 1 with fail
    rw [unhide EA, unhide EB]
    clear EA EB HE
    go_wp2_with fail
    go_ret
    exact ⟨ret_bool (unhide HE').symm, by first | exact unhide HBB | exact below_drewN (unhide HBB) _⟩
  subst n0
  have c0 : (x0 != x0) = false := by simp
  by_cases n1 : x1 = y1
  case neg =>
    have HE' : Hid (snSame (x0, x1, x2, x3) (x0, y1, y2, y3) = false) := by show _ = _; rw [unhide HE]; simp [n1]
    rw [decide_eq_false n1] at D1
    go_enter Try.func32, Try.ntmps32
    go_upto_region 1 with fail
    rw [unhide EA, unhide EB]
    clear EA EB HE
    go_wp2_with fail
    refine (unhide D1).mono ?_
    rintro r w2 ⟨rfl, n', rfl⟩
    go_wp2_with fail
    go_ret
    exact ⟨ret_bool (unhide HE').symm, by first | exact unhide HBB | exact below_drewN (unhide HBB) _⟩
  subst n1
  by_cases n2 : e2.n = f2.n
  case neg =>
    have HE' : Hid (snSame (x0, x1, x2, x3) (x0, x1, y2, y3) = false) := by
      show _ = _
      rw [unhide HE]
      have : x2 ≠ y2 := fun h => n2 (by have := unhide HL; rw [this.1, this.2.1, h])
      simp [this]
    have c2 : (((e2.n : Nat) : Int) != ((f2.n : Nat) : Int)) = true := by simp; omega
    clear n2
    rw [decide_eq_true (rfl : x1 = x1)] at D1
    go_enter Try.func32, Try.ntmps32
    go_upto_region 1 with fail
    rw [unhide EA, unhide EB]
    clear EA EB HE
    go_wp2_with fail
    refine (unhide D1).mono ?_
    rintro r w2 ⟨rfl, n', rfl⟩
    go_wp2_with fail
    go_ret
    exact ⟨ret_bool (unhide HE').symm, by first | exact unhide HBB | exact below_drewN (unhide HBB) _⟩
  by_cases n3 : e3.n = f3.n
  case neg =>
    have HE' : Hid (snSame (x0, x1, x2, x3) (x0, x1, y2, y3) = false) := by
      show _ = _
      rw [unhide HE]
      have : x3 ≠ y3 := fun h => n3 (by have := unhide HL; rw [this.2.2.1, this.2.2.2, h])
      simp [this]
    have c2 : (((e2.n : Nat) : Int) != ((f2.n : Nat) : Int)) = false := by simp; omega
    have c3 : (((e3.n : Nat) : Int) != ((f3.n : Nat) : Int)) = true := by simp; omega
    clear n2 n3
    rw [decide_eq_true (rfl : x1 = x1)] at D1
    go_enter Try.func32, Try.ntmps32
    go_upto_region 1 with fail
    rw [unhide EA, unhide EB]
    clear EA EB HE
    go_wp2_with fail
    refine (unhide D1).mono ?_
    rintro r w2 ⟨rfl, n', rfl⟩
    go_wp2_with fail
    go_ret
    exact ⟨ret_bool (unhide HE').symm, by first | exact unhide HBB | exact below_drewN (unhide HBB) _⟩
  have HE2 : Hid (snSame (x0, x1, x2, x3) (x0, x1, y2, y3) = (decide (x2 = y2) && decide (x3 = y3))) := by show _ = _; rw [unhide HE]; simp
  rw [decide_eq_true (rfl : x1 = x1)] at D1
  obtain ⟨a2, L2, p2⟩ := e2
  obtain ⟨a2', L2', p2'⟩ := f2
  obtain ⟨a3, L3, p3⟩ := e3
  obtain ⟨a3', L3', p3'⟩ := f3
  simp only at n2 n3 u2 u3 v2 v3 HL m2 m3 m2' m3' HR HR' HV HV' EA EB ⊢
  subst n2 n3
  have c2 : (((L2 : Nat) : Int) != ((L2 : Nat) : Int)) = false := by simp
  have c3 : (((L3 : Nat) : Int) != ((L3 : Nat) : Int)) = false := by simp
  have HW2 := hide (Below.refl W1.heap.size W1)
  clear HE
  go_enter Try.func32, Try.ntmps32
  go_upto_region 1 with fail
  rw [unhide EA, unhide EB]
  clear EA EB
  go_wp2_with fail
  refine (unhide D1).mono ?_
  rintro r w2 ⟨rfl, n', rfl⟩
  clear D1
  go_wp2_with fail
  go_loopw [5] (fun i wr => ∃ k : Nat, k ≤ L2 ∧ i = .int .i64 k ∧ snSame (x0, x1, x2, x3) (x0, x1, y2, y3) = (decide (x2.drop k = y2.drop k) && decide (x3 = y3)) ∧ Below W1.heap.size W1 wr) (fun i _ => L2 - (intOf i).toNat)
  case atStart => exact ⟨0, Nat.zero_le _, rfl, by rw [unhide HE2]; simp, by first | exact unhide HW2 | exact below_drewN (unhide HW2) _⟩
  case round =>
    obtain ⟨k, hk, rfl, hpre, hbr⟩ := hrel
    have ua := ((unhide HKA) wr hbr).cell 2
    have ub := ((unhide HKB) wr hbr).cell 2
    simp only [snvals, List.getElem?_cons_zero, List.getElem?_cons_succ] at ua ub
    by_cases hlt : k < L2
    · obtain ⟨x, hix⟩ : ∃ t, x2[k]? = some t := ⟨_, List.getElem?_eq_getElem (by have := unhide HL; omega)⟩
      obtain ⟨y, hiy⟩ : ∃ t, y2[k]? = some t := ⟨_, List.getElem?_eq_getElem (by have := unhide HL; omega)⟩
      have hst := drop_same x2 y2 k x y hix hiy
      obtain ⟨bx, ox, ax, _, xr⟩ := (unhide HR) (by omega)
      obtain ⟨by', oy, ay, _, yr⟩ := (unhide HR') (by omega)
      obtain ⟨⟨⟨⟩, s1x⟩, c, oo⟩ := xr wr hbr k x hix
      obtain ⟨⟨⟨⟩, s1y⟩, d, qq⟩ := yr wr hbr k y hiy
      obtain ⟨n0x, z1x⟩ := x
      obtain ⟨n0y, z1y⟩ := y
      have c0 := c 0 _ rfl
      have d0 := d 0 _ rfl
      have c1 := c 1 _ rfl
      have d1 := d 1 _ rfl
      simp only [Nat.add_zero, show rcK.m = 2 from rfl] at c0 d0 c1 d1
      have hq : decide ((n0x, z1x) = (n0y, z1y)) = (decide (n0x = n0y) && decide (z1x = z1y)) := by simp only [Prod.mk.injEq, Bool.decide_and]
      have en : (n0x != n0y) = !decide (n0x = n0y) := by by_cases h : n0x = n0y <;> simp [h]
      rw [hq] at hst
      have C1 := hide (fun (n : Nat) => l1Same_kd s1x s1y z1x z1y (wr.drewN n) (bytesK.below oo.2 (below_drewN (Below.refl wr.heap.size wr) n) (Nat.le_refl _)) (bytesK.below qq.2 (below_drewN (Below.refl wr.heap.size wr) n) (Nat.le_refl _)))
      have HS := hide hst
      have HP := hide hpre
      have HB := hide hbr
      have i1 : (0 : Int) ≤ (k : Int) := by omega
      have i2 : (k : Int) < (L2 : Int) := by omega
      rw [ax] at ua
      rw [ay] at ub
      clear c d oo qq hst hpre hbr hix hiy xr yr ax ay hq
      generalize decide (n0x = n0y) = s0 at en HS
      generalize decide (z1x = z1y) = s1 at C1 HS
      go_wp2_with fail
      cases s0
      · go_quiet ((go_at_call 66; exact Calls.quiet_of_same ((unhide C1) _)))
        go_wp2_with fail
        go_ret
        exact ⟨ret_bool (by rw [unhide HP, unhide HS]; simp), (unhide HBB).trans (Below.mono (by first | exact unhide HB | exact below_drewN (unhide HB) _) (unhide HBB).size)⟩
      cases s1
      · go_quiet ((go_at_call 66; exact Calls.quiet_of_same ((unhide C1) _)))
        go_wp2_with fail
        go_ret
        exact ⟨ret_bool (by rw [unhide HP, unhide HS]; simp), (unhide HBB).trans (Below.mono (by first | exact unhide HB | exact below_drewN (unhide HB) _) (unhide HBB).size)⟩
      · go_quiet ((go_at_call 66; exact Calls.quiet_of_same ((unhide C1) _)))
        go_wp2_with fail
        go_roundw
        case rel => exact ⟨k + 1, by omega, by go_num, by rw [unhide HP, unhide HS]; simp, by first | exact unhide HB | exact below_drewN (unhide HB) _⟩
        case measure => simp [intOf]; omega
    · obtain rfl : k = L2 := by omega
      have HE3 : Hid (snSame (x0, x1, x2, x3) (x0, x1, y2, y3) = decide (x3 = y3)) := by
        show _ = _
        rw [hpre, List.drop_eq_nil_of_le (by have := unhide HL; omega), List.drop_eq_nil_of_le (by have := unhide HL; omega)]
        simp
      have HW3 := hide hbr
      clear hpre hbr HE2 HR HR'
      go_wp2_with fail
      go_loopw [6] (fun i wr => ∃ k : Nat, k ≤ L3 ∧ i = .int .i64 k ∧ snSame (x0, x1, x2, x3) (x0, x1, y2, y3) = decide (x3.drop k = y3.drop k) ∧ Below W1.heap.size W1 wr) (fun i _ => L3 - (intOf i).toNat)
      case atStart => exact ⟨0, Nat.zero_le _, rfl, by rw [unhide HE3]; simp, by first | exact unhide HW3 | exact below_drewN (unhide HW3) _⟩
      case round =>
        obtain ⟨k, hk, rfl, hpre, hbr⟩ := hrel
        have ua := ((unhide HKA) wr hbr).cell 3
        have ub := ((unhide HKB) wr hbr).cell 3
        simp only [snvals, List.getElem?_cons_zero, List.getElem?_cons_succ] at ua ub
        by_cases hlt : k < L3
        · obtain ⟨x, hix⟩ : ∃ t, x3[k]? = some t := ⟨_, List.getElem?_eq_getElem (by have := unhide HL; omega)⟩
          obtain ⟨y, hiy⟩ : ∃ t, y3[k]? = some t := ⟨_, List.getElem?_eq_getElem (by have := unhide HL; omega)⟩
          have hst := drop_same x3 y3 k x y hix hiy
          obtain ⟨bx, ox, ax, _, xr⟩ := (unhide HV) (by omega)
          obtain ⟨by', oy, ay, _, yr⟩ := (unhide HV') (by omega)
          obtain ⟨⟨s0x, s1x, ⟨⟩⟩, c, oo⟩ := xr wr hbr k x hix
          obtain ⟨⟨s0y, s1y, ⟨⟩⟩, d, qq⟩ := yr wr hbr k y hiy
          obtain ⟨z0x, z1x, b2x⟩ := x
          obtain ⟨z0y, z1y, b2y⟩ := y
          have c0 := c 0 _ rfl
          have d0 := d 0 _ rfl
          have c1 := c 1 _ rfl
          have d1 := d 1 _ rfl
          have c2 := c 2 _ rfl
          have d2 := d 2 _ rfl
          simp only [Nat.add_zero, show vtK.m = 3 from rfl] at c0 d0 c1 d1 c2 d2
          have hq : decide ((z0x, z1x, b2x) = (z0y, z1y, b2y)) = (decide (z0x = z0y) && (decide (z1x = z1y) && decide (b2x = b2y))) := by simp only [Prod.mk.injEq, Bool.decide_and]
          rw [hq] at hst
          have C0 := hide (fun (n : Nat) => l1Same_kd s0x s0y z0x z0y (wr.drewN n) (bytesK.below oo.1 (below_drewN (Below.refl wr.heap.size wr) n) (Nat.le_refl _)) (bytesK.below qq.1 (below_drewN (Below.refl wr.heap.size wr) n) (Nat.le_refl _)))
          have C1 := hide (fun (n : Nat) => l1Same_kd s1x s1y z1x z1y (wr.drewN n) (bytesK.below oo.2.1 (below_drewN (Below.refl wr.heap.size wr) n) (Nat.le_refl _)) (bytesK.below qq.2.1 (below_drewN (Below.refl wr.heap.size wr) n) (Nat.le_refl _)))
          have HS := hide hst
          have HP := hide hpre
          have HB := hide hbr
          have i1 : (0 : Int) ≤ (k : Int) := by omega
          have i2 : (k : Int) < (L3 : Int) := by omega
          rw [ax] at ua
          rw [ay] at ub
          clear c d oo qq hst hpre hbr hix hiy xr yr ax ay hq
          generalize decide (z0x = z0y) = s0 at C0 HS
          generalize decide (z1x = z1y) = s1 at C1 HS
          go_wp2_with fail
          cases s0
          · go_quiet (first | (go_at_call_of 66 s0x.a; exact Calls.quiet_of_same ((unhide C0) _)) | (go_at_call_of 66 s1x.a; exact Calls.quiet_of_same ((unhide C1) _)))
            go_wp2_with fail
            go_ret
            exact ⟨ret_bool (by rw [unhide HP, unhide HS]; simp), (unhide HBB).trans (Below.mono (by first | exact unhide HB | exact below_drewN (unhide HB) _) (unhide HBB).size)⟩
          cases s1
          · go_quiet (first | (go_at_call_of 66 s0x.a; exact Calls.quiet_of_same ((unhide C0) _)) | (go_at_call_of 66 s1x.a; exact Calls.quiet_of_same ((unhide C1) _)))
            go_wp2_with fail
            go_ret
            exact ⟨ret_bool (by rw [unhide HP, unhide HS]; simp), (unhide HBB).trans (Below.mono (by first | exact unhide HB | exact below_drewN (unhide HB) _) (unhide HBB).size)⟩
          cases b2x <;> cases b2y
          · go_quiet (first | (go_at_call_of 66 s0x.a; exact Calls.quiet_of_same ((unhide C0) _)) | (go_at_call_of 66 s1x.a; exact Calls.quiet_of_same ((unhide C1) _)))
            go_wp2_with fail
            go_roundw
            case rel => exact ⟨k + 1, by omega, by go_num, by rw [unhide HP, unhide HS]; simp, by first | exact unhide HB | exact below_drewN (unhide HB) _⟩
            case measure => simp [intOf]; omega
          · go_quiet (first | (go_at_call_of 66 s0x.a; exact Calls.quiet_of_same ((unhide C0) _)) | (go_at_call_of 66 s1x.a; exact Calls.quiet_of_same ((unhide C1) _)))
            go_wp2_with fail
            go_ret
            exact ⟨ret_bool (by rw [unhide HP, unhide HS]; simp), (unhide HBB).trans (Below.mono (by first | exact unhide HB | exact below_drewN (unhide HB) _) (unhide HBB).size)⟩
          · go_quiet (first | (go_at_call_of 66 s0x.a; exact Calls.quiet_of_same ((unhide C0) _)) | (go_at_call_of 66 s1x.a; exact Calls.quiet_of_same ((unhide C1) _)))
            go_wp2_with fail
            go_ret
            exact ⟨ret_bool (by rw [unhide HP, unhide HS]; simp), (unhide HBB).trans (Below.mono (by first | exact unhide HB | exact below_drewN (unhide HB) _) (unhide HBB).size)⟩
          · go_quiet (first | (go_at_call_of 66 s0x.a; exact Calls.quiet_of_same ((unhide C0) _)) | (go_at_call_of 66 s1x.a; exact Calls.quiet_of_same ((unhide C1) _)))
            go_wp2_with fail
            go_roundw
            case rel => exact ⟨k + 1, by omega, by go_num, by rw [unhide HP, unhide HS]; simp, by first | exact unhide HB | exact below_drewN (unhide HB) _⟩
            case measure => simp [intOf]; omega
        · obtain rfl : k = L3 := by omega
          have HE4 : Hid (snSame (x0, x1, x2, x3) (x0, x1, y2, y3) = true) := by
            show _ = _
            rw [hpre, List.drop_eq_nil_of_le (by have := unhide HL; omega), List.drop_eq_nil_of_le (by have := unhide HL; omega)]
            simp
          have HB := hide hbr
          clear hpre hbr
          go_wp2_with fail
          go_ret
          exact ⟨ret_bool (unhide HE4).symm, (unhide HBB).trans ((unhide HB).mono (unhide HBB).size)⟩

theorem specSameSnaps_k (e : SnS) (x : Sn) (f : SnS) (y : Sn) (w : World) (o : SNK.Ok w e x) (q : SNK.Ok w f y) (m : SnSm x) (m' : SnSm y) :
    Calls Try.prog 32 #[.agg (snvals e x), .agg (snvals f y)] w fun r w' => r = .returned (.bool (snSame x y)) ∧ Below w.heap.size w w' := specSameSnaps_any e f x y w o q m m'

theorem implSameSnaps_k (e : SnS) (x : Sn) (f : SnS) (y : Sn) (w : World) (o : SNK.Ok w e x) (q : SNK.Ok w f y) (m : SnSm x) (m' : SnSm y) :
    Calls Try.prog 33 #[.agg (snvals e x), .agg (snvals f y)] w fun r w' => r = .returned (.bool (snSame x y)) ∧ Below w.heap.size w w' := implSameSnaps_any e f x y w o q m m'

end Go.Proofs.Ytalkhlimkanlcaa

/- What is proved here: how arguments that are recents, votes and snapshots read. -/
namespace Go.Proofs.Ytalkhlimkanlcaa
open Go.RowKit
set_option linter.unusedVariables false
set_option maxRecDepth 100000

theorem opensRecent {H : Type} {enc : TypeId × Value → H} {w : World} {sp : Nat → Bool} {held : Bool} : Opens enc Try.prog w sp held (rcK) 95 := by
  intro fuel cs y hl h
  have hl' : cs.length = 2 := hl
  have f0 := opens_field (K := intK) Try.underlying95 h 0 _ rfl rfl rfl (by kernel_rfl) (opens_int Try.underlying2) (by show 0 + 1 ≤ cs.length; omega)
  have f1 := opens_field (K := bytesK) Try.underlying95 h 1 _ rfl rfl rfl (by kernel_rfl) (opens_bytes Try.underlying45 Try.underlying5 (by kernel_rfl)) (by show 1 + 1 ≤ cs.length; omega)
  match cs, hl' with
  | [c0, c1], _ =>
    replace f0 : ∃ e x, [c0] = (intK).vals e x ∧ (intK).Ok w e x := f0
    obtain ⟨e0, x0, q0, r0⟩ := f0
    replace f1 : ∃ e x, [c1] = (bytesK).vals e x ∧ (bytesK).Ok w e x := f1
    obtain ⟨e1, x1, q1, r1⟩ := f1
    refine ⟨(e0, e1), (x0, x1), ?_, r0, r1⟩
    show [c0, c1] = (intK).vals e0 x0 ++ ((bytesK).vals e1 x1)
    rw [← q0, ← q1]
    rfl

theorem opensVote {H : Type} {enc : TypeId × Value → H} {w : World} {sp : Nat → Bool} {held : Bool} : Opens enc Try.prog w sp held (vtK) 97 := by
  intro fuel cs y hl h
  have hl' : cs.length = 3 := hl
  have f0 := opens_field (K := bytesK) Try.underlying97 h 0 _ rfl rfl rfl (by kernel_rfl) (opens_bytes Try.underlying45 Try.underlying5 (by kernel_rfl)) (by show 0 + 1 ≤ cs.length; omega)
  have f1 := opens_field (K := bytesK) Try.underlying97 h 1 _ rfl rfl rfl (by kernel_rfl) (opens_bytes Try.underlying45 Try.underlying5 (by kernel_rfl)) (by show 1 + 1 ≤ cs.length; omega)
  have f2 := opens_field (K := boolK) Try.underlying97 h 2 _ rfl rfl rfl (by kernel_rfl) (opens_bool Try.underlying4) (by show 2 + 1 ≤ cs.length; omega)
  match cs, hl' with
  | [c0, c1, c2], _ =>
    replace f0 : ∃ e x, [c0] = (bytesK).vals e x ∧ (bytesK).Ok w e x := f0
    obtain ⟨e0, x0, q0, r0⟩ := f0
    replace f1 : ∃ e x, [c1] = (bytesK).vals e x ∧ (bytesK).Ok w e x := f1
    obtain ⟨e1, x1, q1, r1⟩ := f1
    replace f2 : ∃ e x, [c2] = (boolK).vals e x ∧ (boolK).Ok w e x := f2
    obtain ⟨e2, x2, q2, r2⟩ := f2
    refine ⟨(e0, e1, e2), (x0, x1, x2), ?_, r0, r1, r2⟩
    show [c0, c1, c2] = (bytesK).vals e0 x0 ++ ((bytesK).vals e1 x1 ++ ((boolK).vals e2 x2))
    rw [← q0, ← q1, ← q2]
    rfl

theorem opensSnap {H : Type} {enc : TypeId × Value → H} {w : World} {sp : Nat → Bool} {held : Bool} : Opens enc Try.prog w sp held (SNK) 26 := by
  intro fuel cs y hl h
  have hl' : cs.length = 4 := hl
  have f0 := opens_field (K := intK) Try.underlying26 h 0 _ rfl rfl rfl (by kernel_rfl) (opens_int Try.underlying2) (by show 0 + 1 ≤ cs.length; omega)
  have f1 := opens_field (K := rowK bytesK 45) Try.underlying26 h 1 _ rfl rfl rfl (by kernel_rfl) (opens_row Try.underlying22 (by kernel_rfl) (by decide) (opens_bytes Try.underlying45 Try.underlying5 (by kernel_rfl))) (by show 1 + 1 ≤ cs.length; omega)
  have f2 := opens_field (K := rowK rcK 87) Try.underlying26 h 2 _ rfl rfl rfl (by kernel_rfl) (opens_row Try.underlying23 (by kernel_rfl) (by decide) opensRecent) (by show 2 + 1 ≤ cs.length; omega)
  have f3 := opens_field (K := rowK vtK 89) Try.underlying26 h 3 _ rfl rfl rfl (by kernel_rfl) (opens_row Try.underlying24 (by kernel_rfl) (by decide) opensVote) (by show 3 + 1 ≤ cs.length; omega)
  match cs, hl' with
  | [c0, c1, c2, c3], _ =>
    replace f0 : ∃ e x, [c0] = (intK).vals e x ∧ (intK).Ok w e x := f0
    obtain ⟨e0, x0, q0, r0⟩ := f0
    replace f1 : ∃ e x, [c1] = (rowK bytesK 45).vals e x ∧ (rowK bytesK 45).Ok w e x := f1
    obtain ⟨e1, x1, q1, r1⟩ := f1
    replace f2 : ∃ e x, [c2] = (rowK rcK 87).vals e x ∧ (rowK rcK 87).Ok w e x := f2
    obtain ⟨e2, x2, q2, r2⟩ := f2
    replace f3 : ∃ e x, [c3] = (rowK vtK 89).vals e x ∧ (rowK vtK 89).Ok w e x := f3
    obtain ⟨e3, x3, q3, r3⟩ := f3
    refine ⟨(e0, e1, e2, e3), (x0, x1, x2, x3), ?_, r0, r1, r2, r3⟩
    show [c0, c1, c2, c3] = (intK).vals e0 x0 ++ ((rowK bytesK 45).vals e1 x1 ++ ((rowK rcK 87).vals e2 x2 ++ ((rowK vtK 89).vals e3 x3)))
    rw [← q0, ← q1, ← q2, ← q3]
    rfl

theorem open_snap {H : Type} {enc : TypeId × Value → H} {w : World} {sp : Nat → Bool} {held : Bool} {v : Value} {d : DataW H} {ps : List MemPlace} (hv : ∃ cs, v = .agg cs ∧ cs.size = Try.prog.cellsOf 26) (h : DataW.Trod enc Try.prog w 0 sp held 26 v d ps) :
    ∃ e x, v = .agg (snvals e x) ∧ SNK.Ok w e x := opens_arg opensSnap hv (by kernel_rfl) h

end Go.Proofs.Ytalkhlimkanlcaa
