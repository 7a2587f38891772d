/- What is proved here: what ShortBytes answers, in the program and in the model, for every number: the same code and the same bytes, in new memory. -/
import Derived.Test.YtndkdngojjhinaaChecked
import Derived.Test.YtndkdngojjhinaaBase
import Derived.Test.YtndkdngojjhinaaInfo
import Derived.Test.YtndkdngojjhinaaShortF
import Derived.WalkKit
import Derived.WalkLawsBesides
import Derived.WalkSmall
import Derived.Laws.CopyOwn
import Derived.WalkSpells
import Derived.KernelRfl
namespace Go.Proofs.Ytndkdngojjhinaa
open Go.RowKit
set_option linter.unusedVariables false
set_option maxRecDepth 100000

/-- The world in which impl.ShortBytes fills its room. -/
def roomW (w : World) (room : List Int) : World := (w.alloc (.cells #[.int .i64 0, .slice none 0 0] 30)).alloc (.cells (room.map (Value.int .u8)).toArray 53)

theorem roomW_cell (w : World) (room : List Int) (k : Nat) (h : k < room.length) : (roomW w room).cell? ⟨w.heap.size + 1, k, none⟩ = some (.int .u8 (room.getD k 0)) := by
  unfold roomW
  rw [World.cell?_alloc_at _ _ _ _ (by simp)]
  simp [h]

theorem roomW_frozen (w : World) (room : List Int) (k : Nat) : (roomW w room).frozen? ⟨w.heap.size + 1, k, none⟩ = false := by
  unfold roomW
  simp

theorem roomW_set (w : World) (room : List Int) (k : Nat) (z : Int) : (roomW w room).setCell ⟨w.heap.size + 1, k, none⟩ (.int .u8 z) = roomW w (room.set k z) := by
  unfold roomW
  rw [World.setCell_alloc_at _ _ _ _ _ (by simp)]
  simp [List.map_set]

theorem roomW_below (w : World) (room : List Int) : Below w.heap.size w (roomW w room) := ((Below.refl _ _).alloc (Nat.le_refl _) _).alloc (by simp) _

theorem roomW_size (w : World) (room : List Int) : (roomW w room).heap.size = w.heap.size + 2 := by simp [roomW]

theorem roomW_res0 (w : World) (room : List Int) : (roomW w room).heap[w.heap.size]? = some (.cells #[.int .i64 0, .slice none 0 0] 30 (0, 0)) := by
  unfold roomW
  show ((w.heap.push _).push _)[w.heap.size]? = _
  simp [Array.getElem?_push]

theorem own_cur {w : World} {B g d : Nat} {e : TypeId} {xs : List Value} (h : w.ownsRow B e 1 (.slice (some ⟨g, 0, none⟩) d d) d xs) : ∃ cur, w.heap[g]? = some (.cells cur e (0, 0)) ∧ cur.size = d := by
  rcases h.2 with ⟨h', _⟩ | ⟨g', cap', cur, h', hb, hg, hnc, hcm, hcs, htake⟩
  · simp at h'
  · simp only [Value.slice.injEq, Option.some.injEq, Addr.mk.injEq, and_true, true_and] at h'
    obtain ⟨rfl, rfl⟩ := h'
    exact ⟨cur, hg, by simpa using hcs⟩

theorem underRoom : Try.prog.underlying 53 = some (.array 7 5) := by kernel_rfl
theorem size5 : (Try.prog.info? 5).map (·.size) = some 1 := by kernel_rfl

theorem copy_own (w : World) (B g d sCap : Nat) (a : Addr) (xs cs : List Value) (h : w.ownsRow B 5 1 (.slice (some ⟨g, 0, none⟩) d d) d xs) (hl : cs.length = d)
    (hsrc : ∀ j v, cs[j]? = some v → w.cell? (a.add j) = some v) (h1 : ∀ v ∈ cs, v.oneCell' = true) :
    ∃ W, (Builtin.copy_ #[28, 28] 3 #[.slice (some ⟨g, 0, none⟩) d d, .slice (some a) d sCap]).run Try.prog w = .ok (goInt d) W ∧
      W.ownsRow B 5 1 (.slice (some ⟨g, 0, none⟩) d d) d cs ∧ w.grownBy W (some g) := by
  rcases h.2 with ⟨h', _⟩ | ⟨g', cap', cur, h', hb, hg, hnc, hcm, hcs, htake⟩
  · simp at h'
  · simp only [Value.slice.injEq, Option.some.injEq, Addr.mk.injEq, and_true, true_and] at h'
    obtain ⟨rfl, rfl⟩ := h'
    have hr := run_copy_row (P := Try.prog) w 28 28 3 5 g 0 d d a d sCap cur 5 cs Try.underlying28 size5 hg (by rw [hl]; exact (Nat.min_self d).symm) hsrc (by omega) h1
    have e1 : cur.toList.take 0 ++ cs ++ cur.toList.drop (0 + cs.length) = cs := by
      rw [List.drop_eq_nil_of_le (by simp; omega)]; simp
    rw [e1, hl] at hr
    exact ⟨_, hr, ⟨by simpa using hl, .inr ⟨g, d, cs.toArray, rfl, hb, setRow_heap w g cur _ 5 _ hg, Nat.le_refl _, hcm, by simpa using hl, by simp [← hl]⟩⟩,
      ⟨rfl, rfl, rfl, by simp [World.setRow], fun k _ hk => setRow_other w g k _ (fun e => hk (by simp [e]))⟩⟩

theorem slice_room (b m : Nat) (hm : m < 7) (W : World) :
    (Instr.sliceAt 53 (.pointer (some ⟨b, 0, none⟩)) (some (.int .i64 (m : Int))) none none).run Try.prog W = .ok (.slice (some ⟨b, m, none⟩) (7 - m) (7 - m)) W := by
  have hs : (sizeOf 5).run Try.prog W = .ok 1 W := by kernel_rfl
  have h := run_sliceAt_array_l (P := Try.prog) W 53 ⟨b, 0, none⟩ (by kernel_rfl) .i64 (m : Int) (by omega) (by show (m : Int) ≤ ((7 : Nat) : Int); omega)
  rw [h]
  show ((sizeOf 5).run Try.prog W).andThen (fun s w => .ok (slicedAt ⟨b, 0, none⟩ (m : Int).toNat 7 7 s) w) = _
  rw [hs]
  simp only [Result.andThen, slicedAt, Int.toNat_natCast, Nat.mul_one]
  rw [if_neg (by omega), add_none, Nat.zero_add]

set_option maxHeartbeats 1000000 in
theorem implShort_pos (n : Int) (w : World) (h0 : 0 < n) (h1 : n ≤ 1125899906842624) :
    Calls Try.prog 25 #[.int .i64 n] w fun e w' => ∃ a cap, e = .returned (.agg #[.int .i64 0, .slice a (shortF 7 n).length cap]) ∧
      w'.ownsRow w.heap.size 5 1 (.slice a (shortF 7 n).length cap) (shortF 7 n).length ((shortF 7 n).map (Value.int .u8)) ∧ Below w.heap.size w w' := by
  obtain ⟨i0, hi, hz0, hz1, hz2⟩ := info_parts info5
  have hst := Room.start n (by omega) h1
  have HST := hide hst
  clear hst
  go_enter Try.func25, Try.ntmps25
  go_wp2
  go_loopw [4, 5] (fun f r wr => ∃ (m : Nat) (rest : Int) (room : List Int), f = .int .i64 m ∧ r = .int .i64 rest ∧ wr = roomW w room ∧ Room n m rest room) (fun f _ _ => (intOf f).toNat)
  case atStart => exact ⟨7, n, _, rfl, rfl, rfl, unhide HST⟩
  case round =>
    obtain ⟨m, rest, room, rfl, rfl, rfl, hroom⟩ := hrel
    by_cases hr : 0 < rest
    · obtain ⟨k, rfl, hnext⟩ := hroom.step hr
      have hbd := hroom.bd
      have hk : k < 7 := by have := hroom.1; omega
      have HN := hide hnext
      have hlen := hroom.2.2.2.1
      clear hnext hroom HST
      have hcell := roomW_cell w room k (by omega)
      have hfz := roomW_frozen w room k
      have hset := roomW_set w room k (rest % 256)
      generalize room.getD k 0 = u at hcell
      go_wp2
      go_roundw
      case rel => exact ⟨k, rest / 256, _, rfl, rfl, rfl, unhide HN⟩
      case measure => simp [intOf]
    · obtain rfl : rest = 0 := by have := hroom.2.1; omega
      have HD := hide (hroom.done rfl)
      have hm : m ≤ 7 := hroom.1
      have hlen := hroom.2.2.2.1
      have hsz := roomW_size w room
      clear hroom HST
      have hm7 : m < 7 := by
        have hp := shortF_pos n h0
        rw [unhide HD, List.length_drop] at hp
        omega
      have hdl : (shortF 7 n).length = 7 - m := by rw [unhide HD, List.length_drop]; omega
      have HDL := hide hdl
      have hres := roomW_res0 w room
      have hbel := roomW_below w room
      have hsrc : ∀ j, j < 7 - m → (roomW w room).cell? ⟨w.heap.size + 1, m + j, none⟩ = some (.int .u8 (room.getD (m + j) 0)) := fun j hj => roomW_cell w room (m + j) (by omega)
      have HSRC := hide hsrc
      have HRES := hide hres
      clear hdl hsrc hres
      go_wp2_with (at_make; refine wpList_make_full _ rfl _ _ 28 rfl (w.heap.size + 1) 5 i0 (.int .u8 0) 1 Try.underlying28 hi hz0 hz1 _ _ _ _ (7 - m) rfl rfl (by omega) (by omega) ?c1 ?c2 ?c3 ?_)
      case c1 => omega
      case c2 => unfold maxLen; omega
      intro w1 hown hgrow
      have hsrc1 : ∀ j, j < 7 - m → w1.cell? ⟨w.heap.size + 1, m + j, none⟩ = some (.int .u8 (room.getD (m + j) 0)) := fun j hj => hgrow.cell ((unhide HSRC) j hj) (by simp)
      have hbel1 : Below w.heap.size w w1 := hbel.grown hgrow (by rw [hsz]; omega) (fun k e => by cases e)
      have hres1 : w1.heap[w.heap.size]? = some (.cells #[.int .i64 0, .slice none 0 0] 30 (0, 0)) := (hgrow.block _ (by rw [hsz]; omega) (by simp)).trans (unhide HRES)
      have hsl := slice_room (w.heap.size + 1) m hm7
      obtain ⟨w2, hcp, hown2, hgrow2⟩ := copy_own w1 (w.heap.size + 1) (w.heap.size + 2) (7 - m) (7 - m) ⟨w.heap.size + 1, m, none⟩ _ ((room.drop m).map (Value.int .u8)) hown (by simp; omega)
        (fun j v hj => by
          have hjl : j < 7 - m := by
            have := (List.getElem?_eq_some_iff.1 hj).1
            simp at this; omega
          rw [add_none, hsrc1 j hjl]
          rw [List.getElem?_map, List.getElem?_drop, List.getElem?_eq_getElem (by omega)] at hj
          rw [getD_at _ _ (by omega)]
          exact hj)
        (fun v hv => by obtain ⟨x, _, rfl⟩ := List.mem_map.1 hv; rfl)
      have hsz1 : w.heap.size + 2 ≤ w1.heap.size := by rw [← hsz]; exact hgrow.size
      have hbel2 : Below w.heap.size w w2 := hbel1.grown hgrow2 (by omega) (fun k e => by cases e; omega)
      have hres2 : w2.heap[w.heap.size]? = some (.cells #[.int .i64 0, .slice none 0 0] 30 (0, 0)) := (hgrow2.block _ (by omega) (by simp)).trans hres1
      have HB := hide hbel2
      have HR := hide hres2
      have HO := hide hown2
      have q0 : w2.cell? ⟨w.heap.size, 0, none⟩ = some (.int .i64 0) := by simp [World.cell?, hres2]
      have q1 : w2.cell? ⟨w.heap.size, 1, none⟩ = some (.slice none 0 0) := by simp [World.cell?, hres2]
      have f0 : w2.frozen? ⟨w.heap.size, 0, none⟩ = false := frozen_of_row w2 _ 0 _ 30 hres2
      have f1 : w2.frozen? ⟨w.heap.size, 1, none⟩ = false := frozen_of_row w2 _ 1 _ 30 hres2
      clear hown hgrow hsrc1 hbel1 hres1 hbel hown2 hgrow2 hbel2 hres2 HSRC HRES
      go_wp2_with fail
      refine bodyPost_ret (v := .agg #[.int .i64 0, .slice (some ⟨w.heap.size + 2, 0, none⟩) (7 - m) (7 - m)]) (by simp [results, Try.results25, go_sem, q0, q1]) rfl ⟨some ⟨w.heap.size + 2, 0, none⟩, 7 - m, ?_, ?_, ?_⟩
      · rw [unhide HDL]
      · rw [unhide HDL, unhide HD]
        exact ownsRow_base (ownsRow_setCell_below (ownsRow_setCell_below (unhide HO) (by simp) _) (by simp) _) (by omega)
      · exact ((unhide HB).setCell (by simp) _).setCell (by simp) _

theorem slice_room7 (b : Nat) (W : World) :
    (Instr.sliceAt 53 (.pointer (some ⟨b, 0, none⟩)) (some (.int .i64 7)) none none).run Try.prog W = .ok (.slice (some ⟨b, 0, none⟩) 0 0) W := by
  have hs : (sizeOf 5).run Try.prog W = .ok 1 W := by kernel_rfl
  have h := run_sliceAt_array_l (P := Try.prog) W 53 ⟨b, 0, none⟩ (by kernel_rfl) .i64 7 (by omega) (by show (7 : Int) ≤ ((7 : Nat) : Int); omega)
  rw [h]
  show ((sizeOf 5).run Try.prog W).andThen (fun s w => .ok (slicedAt ⟨b, 0, none⟩ 7 7 7 s) w) = _
  rw [hs]
  rfl

set_option maxHeartbeats 1000000 in
theorem implShort_zero (w : World) :
    Calls Try.prog 25 #[.int .i64 0] w fun e w' => ∃ a cap, e = .returned (.agg #[.int .i64 0, .slice a 0 cap]) ∧
      w'.ownsRow w.heap.size 5 1 (.slice a 0 cap) 0 [] ∧ Below w.heap.size w w' := by
  obtain ⟨i0, hi, hz0, hz1, hz2⟩ := info_parts info5
  have hsl := slice_room7 (w.heap.size + 1)
  have hcp := fun (W : World) (d a : Option Addr) => run_copy_none (P := Try.prog) W 28 28 3 5 d a 0 0 0 0 Try.underlying28 size5 rfl
  have hres := roomW_res0 w [0, 0, 0, 0, 0, 0, 0]
  have hbel := roomW_below w [0, 0, 0, 0, 0, 0, 0]
  have hsz := roomW_size w [0, 0, 0, 0, 0, 0, 0]
  have hroom : roomW w [0, 0, 0, 0, 0, 0, 0] = (w.alloc (.cells #[.int .i64 0, .slice none 0 0] 30)).alloc (.cells #[.int .u8 0, .int .u8 0, .int .u8 0, .int .u8 0, .int .u8 0, .int .u8 0, .int .u8 0] 53) := rfl
  rw [hroom] at hres hbel hsz
  have HRES := hide hres
  have HBEL := hide hbel
  have HSZ := hide hsz
  clear hres hbel hsz hroom
  go_enter Try.func25, Try.ntmps25
  go_wp2
  refine wp_loop_rounds 1 ?_
  rw [rounds_succ]
  go_wp2_with (at_make; refine wpList_make_full _ rfl _ _ 28 rfl (w.heap.size + 1) 5 i0 (.int .u8 0) 1 Try.underlying28 hi hz0 hz1 _ _ _ _ 0 rfl rfl rfl rfl ?c1 ?c2 ?c3 ?_)
  case c1 => omega
  case c2 => unfold maxLen; omega
  case c3 => simp
  intro w1 hown hgrow
  have hres1 : w1.heap[w.heap.size]? = some (.cells #[.int .i64 0, .slice none 0 0] 30 (0, 0)) := (hgrow.block _ (by rw [unhide HSZ]; omega) (by simp)).trans (unhide HRES)
  have hbel1 : Below w.heap.size w w1 := (unhide HBEL).grown hgrow (by rw [unhide HSZ]; omega) (fun k e => by cases e)
  have q0 : w1.cell? ⟨w.heap.size, 0, none⟩ = some (.int .i64 0) := by simp [World.cell?, hres1]
  have q1 : w1.cell? ⟨w.heap.size, 1, none⟩ = some (.slice none 0 0) := by simp [World.cell?, hres1]
  have f0 : w1.frozen? ⟨w.heap.size, 0, none⟩ = false := frozen_of_row w1 _ 0 _ 30 hres1
  have f1 : w1.frozen? ⟨w.heap.size, 1, none⟩ = false := frozen_of_row w1 _ 1 _ 30 hres1
  have HB := hide hbel1
  have HO := hide hown
  clear hown hgrow hbel1 hres1
  go_wp2_with fail
  refine bodyPost_ret (v := .agg #[.int .i64 0, .slice (some ⟨w.heap.size + 2, 0, none⟩) 0 0]) (by simp [results, Try.results25, go_sem, q0, q1]) rfl ⟨some ⟨w.heap.size + 2, 0, none⟩, 0, rfl, ?_, ?_⟩
  · have ho := unhide HO
    simp [toList_madeCells_one] at ho
    exact ownsRow_base (ownsRow_setCell_below (ownsRow_setCell_below ho (by simp) _) (by simp) _) (by omega)
  · exact ((unhide HB).setCell (by simp) _).setCell (by simp) _

/-- The code of a number's short bytes, and the bytes. -/
def sbCode (n : Int) : Int := if 0 ≤ n ∧ n ≤ 1125899906842624 then 0 else 3
def sbBytes (n : Int) : List Int := if 0 ≤ n ∧ n ≤ 1125899906842624 then shortF 7 n else []

theorem sbBytes_range (n : Int) : ∀ x ∈ sbBytes n, 0 ≤ x ∧ x ≤ 255 := by
  unfold sbBytes
  split
  · exact shortF_range 7 n
  · intro x hx; simp at hx

theorem sbBytes_length (n : Int) : (sbBytes n).length ≤ 7 := by
  unfold sbBytes
  split
  · exact shortF_length 7 n
  · simp

set_option maxHeartbeats 1000000 in
theorem implShort_out (n : Int) (w : World) (h : n < 0 ∨ 1125899906842624 < n) :
    Calls Try.prog 25 #[.int .i64 n] w fun e w' => e = .returned (.agg #[.int .i64 3, .slice none 0 0]) ∧ Below w.heap.size w w' := by
  rcases h with h | h
  · have h' : decide (n < 0) = true := decide_eq_true h
    go_enter Try.func25, Try.ntmps25
    go_wp2
    exact bodyPost_ret (v := .agg #[.int .i64 3, .slice none 0 0]) (by simp [results, Try.results25, go_sem]) rfl ⟨rfl, (Below.refl _ _).alloc (Nat.le_refl _) _⟩
  · have h' : decide (n < 0) = false := decide_eq_false (by omega)
    have h2 : decide (1125899906842624 < n) = true := decide_eq_true h
    go_enter Try.func25, Try.ntmps25
    go_wp2
    exact bodyPost_ret (v := .agg #[.int .i64 3, .slice none 0 0]) (by simp [results, Try.results25, go_sem]) rfl ⟨rfl, (Below.refl _ _).alloc (Nat.le_refl _) _⟩

theorem implShort_any (n : Int) (w : World) :
    Calls Try.prog 25 #[.int .i64 n] w fun e w' => ∃ a cap, e = .returned (.agg #[.int .i64 (sbCode n), .slice a (sbBytes n).length cap]) ∧
      w'.ownsRow w.heap.size 5 1 (.slice a (sbBytes n).length cap) (sbBytes n).length ((sbBytes n).map (Value.int .u8)) ∧ Below w.heap.size w w' := by
  by_cases hr : 0 ≤ n ∧ n ≤ 1125899906842624
  · have e1 : sbCode n = 0 := if_pos hr
    have e2 : sbBytes n = shortF 7 n := if_pos hr
    rw [e1, e2]
    by_cases h0 : 0 < n
    · exact implShort_pos n w h0 hr.2
    · obtain rfl : n = 0 := by omega
      rw [shortF_zero]
      exact implShort_zero w
  · have e1 : sbCode n = 3 := if_neg hr
    have e2 : sbBytes n = [] := if_neg hr
    rw [e1, e2]
    refine (implShort_out n w (by omega)).mono fun e w' hq => ?_
    exact ⟨none, 0, hq.1, World.ownsRow_nil _ _ _ _, hq.2⟩

end Go.Proofs.Ytndkdngojjhinaa
