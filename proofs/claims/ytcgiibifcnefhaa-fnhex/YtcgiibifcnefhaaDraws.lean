/- What is proved here: the model's draws for the law on texts and bytes return, write into no memory that was there, and give texts and bytes of bounded length. -/
import Derived.Test.YtcgiibifcnefhaaChecked
import Derived.Test.YtcgiibifcnefhaaBase
import Derived.Test.YtcgiibifcnefhaaInfo
import Derived.Test.YtcgiibifcnefhaaNext
import Derived.Test.YtcgiibifcnefhaaSome
import Derived.Test.YtcgiibifcnefhaaShortF
import Derived.Test.YtcgiibifcnefhaaSSpec
import Derived.Test.YtcgiibifcnefhaaL1Hex
import Derived.Laws.AppendOwnNone
import Derived.WalkKit
import Derived.WalkLawsBesides
import Derived.WalkSmall
import Derived.WalkSpells
import Derived.KernelRfl
namespace Go.Proofs.Ytcgiibifcnefhaa
open Go.RowKit
set_option linter.unusedVariables false

set_option maxHeartbeats 1000000 in
theorem source_any (a : Option Addr) (len cap : Nat) (xs : List Int) (w : World) (h : BRow w a len xs) (hl : len ≤ 1048576) :
    Calls Try.prog 20 #[.slice a len cap] w fun e w' => e = .returned (.pointer (some ⟨w.heap.size, 0, none⟩)) ∧ SrcOk w' w.heap.size 0 ∧ Below w.heap.size w w' := by
  have hb := below_alloc w (.cells #[.slice a len cap, .int .i64 0] 55)
  have hs : SrcOk (w.alloc (.cells #[.slice a len cap, .int .i64 0] 55)) w.heap.size 0 := by
    refine ⟨a, len, cap, xs, ?_, h.below hb (Nat.le_refl _), hl, fun hp x hx => ?_⟩
    · show (w.heap.push _)[w.heap.size]? = _
      simp
    · have hc := h.2.2.2 x hx 0 hp
      have := lt_of_cell hc
      have hbl : (x.add 0).block = x.block := by unfold Addr.add; split <;> rfl
      omega
  have HS := hide hs
  have HB := hide hb
  clear hs hb h
  go_enter Try.func20, Try.ntmps20
  go_wp2
  go_ret
  exact ⟨rfl, unhide HS, unhide HB⟩

set_option maxHeartbeats 1000000 in
theorem copy_any (a : Option Addr) (n cap : Nat) (zs : List Int) (w : World) (h : BRow w a n zs) (hcap : a = none → cap = 0) (hn : n ≤ 1048576) :
    Calls Try.prog 35 #[.slice a n cap] w fun e w' => ∃ (a' : Option Addr) (cap' : Nat), e = .returned (.slice a' n cap') ∧ w'.ownsRow w.heap.size 5 1 (.slice a' n cap') n (zs.map (Value.int .u8)) ∧ Below w.heap.size w w' := by
  obtain ⟨i0, hi, hz0, hz1, hz2⟩ := info_parts info5
  have hown0 : (w.alloc (.cells #[] 5)).ownsRow w.heap.size 5 1 (.slice (some ⟨w.heap.size, 0, none⟩) 0 0) 0 [] := World.ownsRow_lit w #[] 0 (Nat.le_refl _) (by unfold maxLen; omega) rfl
  have hb := below_alloc w (.cells #[] 5)
  have hr := h.below hb (Nat.le_refl _)
  cases a with
  | none =>
    obtain rfl : n = 0 := h.2.2.1 rfl
    obtain rfl : zs = [] := List.length_eq_zero_iff.1 h.1
    obtain rfl : cap = 0 := hcap rfl
    have HB := hide hb
    clear h hr hb
    go_enter Try.func35, Try.ntmps35
    go_wp2_with (at_builtin; refine wpList_append_own_none rfl _ _ 22 rfl w.heap.size 5 i0 1 Try.underlying22 hi _ _ _ rfl hown0 rfl ?_)
    go_ret
    exact ⟨_, _, rfl, hown0, unhide HB⟩
  | some x =>
    have HR := hide hr
    have hzl := h.1
    clear h hr
    go_enter Try.func35, Try.ntmps35
    go_wp2_with (at_builtin; refine wpList_append_own _ rfl _ _ 22 rfl w.heap.size 5 i0 (.int .u8 0) 1 1 Try.underlying22 hi hz0 hz1 hz2 rfl (by decide) _ _ _ rfl hown0 x n cap (zs.map (Value.int .u8)) rfl ?c0 ?c1 ?c2 ?c3 ?c4 ?c5 ?_)
    case c0 => simp [hzl]
    case c1 =>
      intro j u hj
      have hjl : j < zs.length := by have := (List.getElem?_eq_some_iff.1 hj).1; simpa using this
      rw [(unhide HR).2.2.2 x rfl j (by omega)]
      rw [List.getElem?_map, List.getElem?_eq_getElem hjl] at hj
      rw [getD_at _ _ hjl]
      exact hj
    case c2 => intro u hu; obtain ⟨z, _, rfl⟩ := List.mem_map.1 hu; rfl
    case c3 => unfold maxLen; omega
    case c4 => omega
    case c5 => simp
    intro v' w2 hown2 hgrow _
    obtain ⟨a2, cap2, hvv⟩ := own_shape hown2
    have hb2 : Below w.heap.size w w2 := hb.grown hgrow (by simp) (fun g e => by simp [Value.ownBlock] at e; omega)
    rw [hvv] at hown2
    rw [hvv]
    have HO := hide hown2
    have HB := hide hb2
    clear hown2 hb2 hgrow hvv hown0 hb
    go_wp2_with fail
    go_ret
    refine ⟨a2, cap2, ?_, ?_, unhide HB⟩
    · simp
    · simpa using unhide HO

theorem grown_below {w0 w w' : World} {B b : Nat} (h : Below B w0 w) (hg : w.grownBy w' (some b)) (hB : B ≤ w.heap.size) (hb : B ≤ b) : Below B w0 w' :=
  h.grown hg hB (fun k e => by cases e; exact hb)

theorem hexEnc_small (zs : List Int) (n : Nat) (h : zs.length = n) : (strOfNums (hexEnc zs)).size = 2 * n := by rw [strOfNums_size, hexEnc_length, h]

theorem new4 (w : World) (x y z u : Value) (t : TypeId) : Below w.heap.size w (w.alloc (Obj.cells #[x, y, z, u] t)) ∧ w.heap.size < (w.alloc (Obj.cells #[x, y, z, u] t)).heap.size ∧
    (w.alloc (Obj.cells #[x, y, z, u] t)).cell? ⟨w.heap.size, 0, none⟩ = some x ∧ (w.alloc (Obj.cells #[x, y, z, u] t)).cell? ⟨w.heap.size, 1, none⟩ = some y ∧
    (w.alloc (Obj.cells #[x, y, z, u] t)).cell? ⟨w.heap.size, 2, none⟩ = some z ∧ (w.alloc (Obj.cells #[x, y, z, u] t)).cell? ⟨w.heap.size, 3, none⟩ = some u :=
  ⟨below_alloc w _, by simp, by simp, by simp, by simp, by simp⟩

set_option maxHeartbeats 1000000 in
theorem drawHex_any (a : Option Addr) (len cap : Nat) (xs : List Int) (w : World) (h : BRow w a len xs) (hl : len ≤ 1048576) :
    Calls Try.prog 5 #[.slice a len cap] w fun e w' => (∃ s : ByteArray, e = .returned (.string s) ∧ s.size ≤ 1048576) ∧ Below w.heap.size w w' := by
  obtain ⟨i0, hi, hz0, hz1, hz2⟩ := info_parts info5
  go_enter Try.func5, Try.ntmps5
  go_wp2_with fail
  refine (source_any a len cap xs w h hl).mono ?_
  rintro e w1 ⟨rfl, s1, b1⟩
  go_wp2_with fail
  refine (next_any w.heap.size 0 9 w1 s1 (by omega) (by omega) (by omega) (by omega)).mono ?_
  rintro e w2 ⟨⟨n, rfl, hn0, hn1⟩, s2, g2⟩
  have b2 := grown_below b1 g2 b1.size (Nat.le_refl _)
  obtain ⟨n, rfl⟩ := Int.eq_ofNat_of_zero_le hn0
  go_wp2_with fail
  refine (some_any w.heap.size (0 + 1) n w2 s2 (by omega) (by omega) (by omega)).mono ?_
  rintro e w3 ⟨g3', c3, zs, rfl, hzl, hzr, o3, s3, g3⟩
  have b3 := grown_below b2 g3 b2.size (Nat.le_refl _)
  have r3 := BRow.own2 o3 hzr
  go_wp2_with fail
  refine (l1Hex_any _ n c3 zs w3 r3 (by omega)).mono ?_
  rintro e w4 ⟨rfl, n4, rfl⟩
  have hts := hexEnc_small zs n hzl
  generalize strOfNums (hexEnc zs) = T at hts
  have b4 := below_drewN b3 n4
  have s4 : SrcOk (w3.drewN n4) w.heap.size (0 + 1 + (n : Int)) := s3
  generalize w3.drewN n4 = w5 at b4 s4
  go_wp2_with fail
  refine (next_any w.heap.size _ 6 w5 s4 (by omega) (by omega) (by omega) (by omega)).mono ?_
  rintro e w6 ⟨⟨k, rfl, hk0, hk1⟩, s6, g6⟩
  have b6 := grown_below b4 g6 b4.size (Nat.le_refl _)
  rcases (by omega : k = 0 ∨ k = 1 ∨ 2 ≤ k) with hk | hk | hk
  · subst hk
    have hbl := s6.lt
    obtain ⟨kA, sA, x0, x1, x2, x3⟩ := new4 w6 (.string { data := #[97] }) (.string { data := #[71, 48] }) (.string { data := #[65, 66] }) (.string { data := #[32, 32] }) 9
    go_wp2_with fail
    generalize w6.alloc (Obj.cells #[Value.string { data := #[97] }, Value.string { data := #[71, 48] }, Value.string { data := #[65, 66] }, Value.string { data := #[32, 32] }] 9) = w7 at kA sA x0 x1 x2 x3
    refine (next_any w.heap.size _ 4 w7 (s6.below kA (Nat.le_refl _)) (by omega) (by omega) (by omega) (by omega)).mono ?_
    rintro e w8 ⟨⟨m, rfl, hm0, hm1⟩, s8, g8⟩
    have hne : some w6.heap.size ≠ some w.heap.size := by simp; omega
    have y0 := g8.cell x0 hne
    have y1 := g8.cell x1 hne
    have y2 := g8.cell x2 hne
    have y3 := g8.cell x3 hne
    have b7 := b6.trans (kA.mono b6.size)
    have b8 := grown_below b7 g8 b7.size (Nat.le_refl _)
    clear x0 x1 x2 x3
    rcases (by omega : m = 0 ∨ m = 1 ∨ m = 2 ∨ m = 3) with hm | hm | hm | hm
    all_goals
      subst hm
      go_wp2_with fail
      go_ret
      refine ⟨⟨_, rfl, ?_⟩, b8⟩
      rw [ByteArray.size_append, hts]
      have : n ≤ 9 := by omega
      simp [ByteArray.size]
      omega
  · subst hk
    go_wp2_with (at_make; refine wpList_make_full _ rfl _ _ 22 rfl (w.heap.size + 1) 5 i0 (.int .u8 0) 1 Try.underlying22 hi hz0 hz1 _ _ _ _ 2402 rfl rfl rfl rfl ?c1 ?c2 ?c3 ?_)
    case c1 => omega
    case c2 => unfold maxLen; omega
    case c3 => have := s6.lt; omega
    intro w7 hown hgrow
    have hown' : w7.ownsRow (w.heap.size + 1) 5 1 (.slice (some ⟨w6.heap.size, 0, none⟩) 2402 2402) 2402 ((List.replicate 2402 (0 : Int)).map (Value.int .u8)) := by
      rw [List.map_replicate]
      rw [toList_madeCells_one] at hown
      exact hown
    have hcv := conv_any (P := Try.prog) w7 22 5 9 Try.underlying22 Try.underlying5 Try.underlying9 (some ⟨w6.heap.size, 0, none⟩) 2402 2402 (List.replicate 2402 (0 : Int)) (BRow.own2 hown' (fun x hx => by rw [List.eq_of_mem_replicate hx]; omega))
    have hzs : (strOfNums (List.replicate 2402 (0 : Int))).size = 2402 := by rw [strOfNums_size, List.length_replicate]
    have b7 : Below w.heap.size w w7 := b6.grown hgrow b6.size (fun k e => by cases e)
    clear hown hown' hgrow
    generalize strOfNums (List.replicate 2402 (0 : Int)) = Z at hcv hzs
    go_wp2_with fail
    go_ret
    exact ⟨⟨Z, rfl, by omega⟩, b7⟩
  · have e0 : (k == 0) = false := by rw [beq_eq_false_iff_ne]; omega
    have e1 : (k == 1) = false := by rw [beq_eq_false_iff_ne]; omega
    go_wp2_with fail
    go_ret
    exact ⟨⟨T, rfl, by omega⟩, b6⟩

end Go.Proofs.Ytcgiibifcnefhaa
