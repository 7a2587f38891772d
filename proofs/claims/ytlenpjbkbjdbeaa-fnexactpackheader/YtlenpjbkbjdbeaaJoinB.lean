import Derived.Test.YtlenpjbkbjdbeaaChecked
import Derived.Test.YtlenpjbkbjdbeaaJoinA
import Derived.Maps.AppendAt
import Derived.WalkKit
import Derived.WalkLawsBesides
import Derived.WalkSmall
import Derived.KernelRfl
import Derived.WalkSpells
import Derived.Test.YtlenpjbkbjdbeaaBase
import Derived.Test.YtlenpjbkbjdbeaaInfo
import Derived.Test.YtlenpjbkbjdbeaaShortF
import Derived.Laws.CopyOwn
import Derived.Test.YtlenpjbkbjdbeaaPkL
import Derived.Deep.RegionHeld3
import Derived.Deep.DeepCutAuto
import Derived.Deep.CutBlock
/- What is proved here: what the program's addParts and addList answer: items with some more behind them. -/
namespace Go.Proofs.Ytlenpjbkbjdbeaa
open Go.RowKit
set_option linter.unusedVariables false

theorem infoIt : (Try.prog.info? 66).map (fun i => (i.zero, i.size, i.bytes)) = some (some (.agg #[.bool false, .int .i64 0, .slice none 0 0]), 3, 40) := by kernel_rfl

theorem three_at (w : World) (x y z : Value) (t : TypeId) : ∀ (j : Nat) (u : Value), [x, y, z][j]? = some u → (w.alloc (.cells #[x, y, z] t)).cell? ((⟨w.heap.size, 0, none⟩ : Addr).add j) = some u := by
  intro j u hj
  rw [add_none, Nat.zero_add, World.cell?_alloc_new]
  match j, hj with
  | 0, hj => simpa using hj
  | 1, hj => simpa using hj
  | 2, hj => simpa using hj

/-- All blocks that were there stay but the row's; and where the row lies then. -/
def Kept (W W' : World) (v v' : Value) : Prop := (∀ k, k < W.heap.size → v.ownBlock ≠ some k → W'.heap[k]? = W.heap[k]?) ∧ W.heap.size ≤ W'.heap.size ∧ (v'.ownBlock = v.ownBlock ∨ ∃ k, v'.ownBlock = some k ∧ W.heap.size ≤ k)

theorem Kept.refl (W : World) (v : Value) : Kept W W v v := ⟨fun _ _ _ => rfl, Nat.le_refl _, .inl rfl⟩

theorem Kept.below {W W1 W2 : World} {v v1 : Value} (h : Kept W W1 v v1) (hb : Below W1.heap.size W1 W2) : Kept W W2 v v1 := by
  obtain ⟨h1, h2, h3⟩ := h
  exact ⟨fun k hk hv => (hb.block k (by omega)).trans (h1 k hk hv), Nat.le_trans h2 hb.size, h3⟩

theorem Kept.app {W W1 W2 : World} {v v1 v2 : Value} (h : Kept W W1 v v1) (hg : W1.grownBy W2 v1.ownBlock) (ho : v2.ownBlock = v1.ownBlock ∨ v2.ownBlock = some W1.heap.size) : Kept W W2 v v2 := by
  obtain ⟨h1, h2, h3⟩ := h
  refine ⟨fun k hk hv => ?_, Nat.le_trans h2 hg.size, ?_⟩
  · rw [hg.block k (by omega) (fun e => ?_)]
    · exact h1 k hk hv
    · rcases h3 with h3 | ⟨q, h3, h4⟩
      · exact hv (by rw [← h3]; exact e.symm)
      · rw [h3] at e; have := Option.some.inj e; omega
  · rcases ho with ho | ho
    · rw [ho]; exact h3
    · exact .inr ⟨_, ho, h2⟩

theorem Kept.trans {W W1 W2 : World} {v v1 v2 : Value} (h : Kept W W1 v v1) (k : Kept W1 W2 v1 v2) : Kept W W2 v v2 := by
  obtain ⟨h1, h2, h3⟩ := h
  obtain ⟨k1, k2, k3⟩ := k
  refine ⟨fun q hq hv => ?_, Nat.le_trans h2 k2, ?_⟩
  · rw [k1 q (by omega) (fun e => ?_)]
    · exact h1 q hq hv
    · rcases h3 with h3 | ⟨b, h3, h4⟩
      · exact hv (by rw [← h3]; exact e)
      · rw [h3] at e; have := Option.some.inj e; omega
  · rcases k3 with k3 | ⟨b, k3, k4⟩
    · rw [k3]; exact h3
    · exact .inr ⟨b, k3, by omega⟩

theorem map_snoc (zss : List (List Int)) (k : Nat) (z : List Int) (p : Int) (h : zss[k]? = some z) : (zss.take (k + 1)).map (lf p) = (zss.take k).map (lf p) ++ [lf p z] := by
  obtain ⟨hk, e⟩ := List.getElem?_eq_some_iff.1 h
  rw [List.take_succ_eq_append_getElem hk, List.map_append, e]
  rfl

set_option maxHeartbeats 4000000 in
theorem addParts_any (w0 : World) (B : Nat) (hw0 : w0.heap.size ≤ B) (a : Option Addr) (n c : Nat) (its : List It) (W : World) (hm : HkR w0 B W (.slice a n c) n its) (p : Int) (hp : in64 p) (pa : Option Addr) (pn pc : Nat) (zss : List (List Int)) (hr : PRow w0 B W pa pn zss) (hB : B ≤ W.heap.size) (hn : n + pn ≤ 300) :
    Calls Try.prog 50 #[.slice a n c, .int .i64 p, .slice pa pn pc] W fun e w' => ∃ a' c', e = .returned (.slice a' (n + pn) c') ∧ HkR w0 B w' (.slice a' (n + pn) c') (n + pn) (its ++ zss.map (lf p)) ∧ Kept W w' (.slice a n c) (.slice a' (n + pn) c') ∧ B ≤ w'.heap.size := by
  obtain ⟨i0, hi, hz0, hz1, hz2⟩ := info_parts infoIt
  have hzl := hr.1
  have hml := hr.2.1
  have HM := hide hm
  have HR := hide hr
  have HZL := hide hzl
  have HML := hide hml
  have HSN := hide (map_snoc zss)
  have HP := hide hp
  clear hm hr hzl hml hp
  go_enter Try.func50, Try.ntmps50
  go_wp2_with fail
  go_loopw [0, 11] (fun s i wr => ∃ (k : Nat) (a' : Option Addr) (c' : Nat), k ≤ pn ∧ i = .int .i64 k ∧ s = .slice a' (n + k) c' ∧ HkR w0 B wr (.slice a' (n + k) c') (n + k) (its ++ (zss.take k).map (lf p)) ∧ PRow w0 B wr pa pn zss ∧ Kept W wr (.slice a n c) (.slice a' (n + k) c') ∧ B ≤ wr.heap.size) (fun _ i _ => pn - (intOf i).toNat)
  case atStart => exact ⟨0, a, c, Nat.zero_le _, rfl, rfl, by simpa using unhide HM, unhide HR, Kept.refl _ _, hB⟩
  case round =>
    obtain ⟨k, a1, c1, hk, rfl, rfl, hmk, hrk, hkk, hBk⟩ := hrel
    clear HM HR
    by_cases hlt : k < pn
    · obtain ⟨z, hit⟩ : ∃ z, zss[k]? = some z := ⟨_, List.getElem?_eq_getElem (by rw [unhide HZL]; exact hlt)⟩
      obtain ⟨pb, po, sa, sl, sc, rfl, cc, hs⟩ := hrk.at hmk.2.2.1 hw0 hit
      have hsn : its ++ (zss.take (k + 1)).map (lf p) = its ++ (zss.take k).map (lf p) ++ [lf p z] := by rw [(unhide HSN) k z p hit, List.append_assoc]
      generalize its ++ (zss.take k).map (lf p) = IS at hmk hsn
      have hzm := (unhide HML) z (List.mem_of_getElem? hit)
      have ba := below_alloc wr (Obj.cells #[.bool false, .int .i64 p, .slice sa sl sc] 66)
      obtain ⟨h1, h2, hb0, vs, h3, h4, h5⟩ := hmk.below ba (Nat.le_refl _) hBk
      have hsa := hs.below ba (Nat.le_refl _)
      have hra := hrk.below ba (Nat.le_refl _)
      have hka := hkk.below ba
      have zz : (wr.alloc (Obj.cells #[.bool false, .int .i64 p, .slice sa sl sc] 66)).heap.size = wr.heap.size + 1 := by simp
      have k1 : (0 : Int) ≤ (k : Int) := by omega
      have k2 : (k : Int) < (pn : Int) := by omega
      have HS := hide hsn
      have HOK : Hid (ItOk (lf p z)) := ⟨(unhide HP).1, (unhide HP).2, hzm⟩
      have H1 := hide h1
      have H2 := hide h2
      have H3 := hide h3
      have H5 := hide h5
      have HB0 := hide hb0
      have HSA := hide hsa
      have HRA := hide hra
      have HKA := hide hka
      clear hmk hrk hkk hs hsn hit hzm h1 h2 h3 h5 hb0 hsa hra hka ba
      go_wp2_with (at_builtin; refine wpList_append_own_at _ rfl _ _ 55 rfl B 66 i0 (.agg #[.bool false, .int .i64 0, .slice none 0 0]) 3 40 Try.underlying55 hi hz0 hz1 hz2 rfl (by decide) _ _ _ rfl h4 ⟨wr.heap.size, 0, none⟩ 1 1 [.bool false, .int .i64 p, .slice sa sl sc] rfl rfl ?c1 ?c2 ?c3 ?c4 ?c5 ?_)
      case c1 => exact three_at _ _ _ _ _
      case c2 => intro u hu; simp at hu; rcases hu with rfl | rfl | rfl <;> rfl
      case c3 => unfold maxLen; omega
      case c4 => omega
      case c5 => omega
      intro v' w6 hown2 hgrow _ hblk
      obtain ⟨a6, c6, hv6⟩ := own_shape hown2
      subst hv6
      have M6 : HkR w0 B w6 (.slice a6 (n + k + 1) c6) (n + k + 1) (IS ++ [lf p z]) := HkR.snoc (unhide H1) (unhide H2) (unhide HB0) (unhide H3) h4 (unhide H5) (by omega) (unhide HSA) (unhide HOK) hown2 hgrow
      have R6 := (unhide HRA).grown h4 hgrow
      have K6 := (unhide HKA).app hgrow (v2 := .slice a6 (n + k + 1) c6) (by rw [zz]; exact hblk)
      have z6 := hgrow.size
      rw [zz] at z6
      have HM6 := hide M6
      have HR6 := hide R6
      have HK6 := hide K6
      clear M6 R6 K6 hown2 hgrow hblk h4 H1 H2 H3 H5 HB0 HSA HRA HKA zz
      go_wp2_with fail
      go_roundw
      case rel => exact ⟨k + 1, a6, c6, by omega, by go_num, rfl, by rw [unhide HS]; exact unhide HM6, unhide HR6, unhide HK6, by omega⟩
      case measure => simp [intOf]; omega
    · obtain rfl : k = pn := by omega
      have et : zss.take k = zss := List.take_of_length_le (by rw [unhide HZL]; exact Nat.le_refl _)
      rw [et] at hmk
      have HMK := hide hmk
      have HKK := hide hkk
      clear hmk hrk hkk et
      go_wp2_with fail
      go_ret
      exact ⟨a1, c1, rfl, unhide HMK, unhide HKK, hBk⟩

end Go.Proofs.Ytlenpjbkbjdbeaa

/- What is proved here: what ShortBytes answers, in the program and in the model, for every number: the same code and the same bytes, in new memory. -/
namespace Go.Proofs.Ytlenpjbkbjdbeaa
open Go.RowKit
set_option linter.unusedVariables false

/-- The world in which impl.ShortBytes fills its room. -/
def roomW (w : World) (room : List Int) : World := (w.alloc (.cells #[.int .i64 0, .slice none 0 0] 33)).alloc (.cells (room.map (Value.int .u8)).toArray 78)

theorem roomW_cell (w : World) (room : List Int) (k : Nat) (h : k < room.length) : (roomW w room).cell? ⟨w.heap.size + 1, k, none⟩ = some (.int .u8 (room.getD k 0)) := by
  unfold roomW
  rw [World.cell?_alloc_at _ _ _ _ (by simp)]
  simp [h]

theorem roomW_frozen (w : World) (room : List Int) (k : Nat) : (roomW w room).frozen? ⟨w.heap.size + 1, k, none⟩ = false := by
  unfold roomW
  simp

theorem roomW_set (w : World) (room : List Int) (k : Nat) (z : Int) : (roomW w room).setCell ⟨w.heap.size + 1, k, none⟩ (.int .u8 z) = roomW w (room.set k z) := by
  unfold roomW
  rw [World.setCell_alloc_at _ _ _ _ _ (by simp)]
  simp [List.map_set]

theorem roomW_below (w : World) (room : List Int) : Below w.heap.size w (roomW w room) := ((Below.refl _ _).alloc (Nat.le_refl _) _).alloc (by simp) _

theorem roomW_size (w : World) (room : List Int) : (roomW w room).heap.size = w.heap.size + 2 := by simp [roomW]

theorem roomW_res0 (w : World) (room : List Int) : (roomW w room).heap[w.heap.size]? = some (.cells #[.int .i64 0, .slice none 0 0] 33 (0, 0)) := by
  unfold roomW
  show ((w.heap.push _).push _)[w.heap.size]? = _
  simp [Array.getElem?_push]

theorem own_cur {w : World} {B g d : Nat} {e : TypeId} {xs : List Value} (h : w.ownsRow B e 1 (.slice (some ⟨g, 0, none⟩) d d) d xs) : ∃ cur, w.heap[g]? = some (.cells cur e (0, 0)) ∧ cur.size = d := by
  rcases h.2 with ⟨h', _⟩ | ⟨g', cap', cur, h', hb, hg, hnc, hcm, hcs, htake⟩
  · simp at h'
  · simp only [Value.slice.injEq, Option.some.injEq, Addr.mk.injEq, and_true, true_and] at h'
    obtain ⟨rfl, rfl⟩ := h'
    exact ⟨cur, hg, by simpa using hcs⟩

theorem underRoom : Try.prog.underlying 78 = some (.array 7 5) := by kernel_rfl
theorem size5 : (Try.prog.info? 5).map (·.size) = some 1 := by kernel_rfl

theorem copy_own (w : World) (B g d sCap : Nat) (a : Addr) (xs cs : List Value) (h : w.ownsRow B 5 1 (.slice (some ⟨g, 0, none⟩) d d) d xs) (hl : cs.length = d)
    (hsrc : ∀ j v, cs[j]? = some v → w.cell? (a.add j) = some v) (h1 : ∀ v ∈ cs, v.oneCell' = true) :
    ∃ W, (Builtin.copy_ #[22, 22] 3 #[.slice (some ⟨g, 0, none⟩) d d, .slice (some a) d sCap]).run Try.prog w = .ok (goInt d) W ∧
      W.ownsRow B 5 1 (.slice (some ⟨g, 0, none⟩) d d) d cs ∧ w.grownBy W (some g) := by
  rcases h.2 with ⟨h', _⟩ | ⟨g', cap', cur, h', hb, hg, hnc, hcm, hcs, htake⟩
  · simp at h'
  · simp only [Value.slice.injEq, Option.some.injEq, Addr.mk.injEq, and_true, true_and] at h'
    obtain ⟨rfl, rfl⟩ := h'
    have hr := run_copy_row (P := Try.prog) w 22 22 3 5 g 0 d d a d sCap cur 5 cs Try.underlying22 size5 hg (by rw [hl]; exact (Nat.min_self d).symm) hsrc (by omega) h1
    have e1 : cur.toList.take 0 ++ cs ++ cur.toList.drop (0 + cs.length) = cs := by
      rw [List.drop_eq_nil_of_le (by simp; omega)]; simp
    rw [e1, hl] at hr
    exact ⟨_, hr, ⟨by simpa using hl, .inr ⟨g, d, cs.toArray, rfl, hb, setRow_heap w g cur _ 5 _ hg, Nat.le_refl _, hcm, by simpa using hl, by simp [← hl]⟩⟩,
      ⟨rfl, rfl, rfl, by simp [World.setRow], fun k _ hk => setRow_other w g k _ (fun e => hk (by simp [e]))⟩⟩

theorem slice_room (b m : Nat) (hm : m < 7) (W : World) :
    (Instr.sliceAt 78 (.pointer (some ⟨b, 0, none⟩)) (some (.int .i64 (m : Int))) none none).run Try.prog W = .ok (.slice (some ⟨b, m, none⟩) (7 - m) (7 - m)) W := by
  have hs : (sizeOf 5).run Try.prog W = .ok 1 W := by kernel_rfl
  have h := run_sliceAt_array_l (P := Try.prog) W 78 ⟨b, 0, none⟩ (by kernel_rfl) .i64 (m : Int) (by omega) (by show (m : Int) ≤ ((7 : Nat) : Int); omega)
  rw [h]
  show ((sizeOf 5).run Try.prog W).andThen (fun s w => .ok (slicedAt ⟨b, 0, none⟩ (m : Int).toNat 7 7 s) w) = _
  rw [hs]
  simp only [Result.andThen, slicedAt, Int.toNat_natCast, Nat.mul_one]
  rw [if_neg (by omega), add_none, Nat.zero_add]

set_option maxHeartbeats 1000000 in
theorem implShort_pos (n : Int) (w : World) (h0 : 0 < n) (h1 : n ≤ 1125899906842624) :
    Calls Try.prog 60 #[.int .i64 n] w fun e w' => ∃ a cap, e = .returned (.agg #[.int .i64 0, .slice a (shortF 7 n).length cap]) ∧
      w'.ownsRow w.heap.size 5 1 (.slice a (shortF 7 n).length cap) (shortF 7 n).length ((shortF 7 n).map (Value.int .u8)) ∧ Below w.heap.size w w' := by
  obtain ⟨i0, hi, hz0, hz1, hz2⟩ := info_parts info5
  have hst := Room.start n (by omega) h1
  have HST := hide hst
  clear hst
  go_enter Try.func60, Try.ntmps60
  go_wp2
  go_loopw [4, 5] (fun f r wr => ∃ (m : Nat) (rest : Int) (room : List Int), f = .int .i64 m ∧ r = .int .i64 rest ∧ wr = roomW w room ∧ Room n m rest room) (fun f _ _ => (intOf f).toNat)
  case atStart => exact ⟨7, n, _, rfl, rfl, rfl, unhide HST⟩
  case round =>
    obtain ⟨m, rest, room, rfl, rfl, rfl, hroom⟩ := hrel
    by_cases hr : 0 < rest
    · obtain ⟨k, rfl, hnext⟩ := hroom.step hr
      have hbd := hroom.bd
      have hk : k < 7 := by have := hroom.1; omega
      have HN := hide hnext
      have hlen := hroom.2.2.2.1
      clear hnext hroom HST
      have hcell := roomW_cell w room k (by omega)
      have hfz := roomW_frozen w room k
      have hset := roomW_set w room k (rest % 256)
      generalize room.getD k 0 = u at hcell
      go_wp2
      go_roundw
      case rel => exact ⟨k, rest / 256, _, rfl, rfl, rfl, unhide HN⟩
      case measure => simp [intOf]
    · obtain rfl : rest = 0 := by have := hroom.2.1; omega
      have HD := hide (hroom.done rfl)
      have hm : m ≤ 7 := hroom.1
      have hlen := hroom.2.2.2.1
      have hsz := roomW_size w room
      clear hroom HST
      have hm7 : m < 7 := by
        have hp := shortF_pos n h0
        rw [unhide HD, List.length_drop] at hp
        omega
      have hdl : (shortF 7 n).length = 7 - m := by rw [unhide HD, List.length_drop]; omega
      have HDL := hide hdl
      have hres := roomW_res0 w room
      have hbel := roomW_below w room
      have hsrc : ∀ j, j < 7 - m → (roomW w room).cell? ⟨w.heap.size + 1, m + j, none⟩ = some (.int .u8 (room.getD (m + j) 0)) := fun j hj => roomW_cell w room (m + j) (by omega)
      have HSRC := hide hsrc
      have HRES := hide hres
      clear hdl hsrc hres
      go_wp2_with (at_make; refine wpList_make_full _ rfl _ _ 22 rfl (w.heap.size + 1) 5 i0 (.int .u8 0) 1 Try.underlying22 hi hz0 hz1 _ _ _ _ (7 - m) rfl rfl (by omega) (by omega) ?c1 ?c2 ?c3 ?_)
      case c1 => omega
      case c2 => unfold maxLen; omega
      intro w1 hown hgrow
      have hsrc1 : ∀ j, j < 7 - m → w1.cell? ⟨w.heap.size + 1, m + j, none⟩ = some (.int .u8 (room.getD (m + j) 0)) := fun j hj => hgrow.cell ((unhide HSRC) j hj) (by simp)
      have hbel1 : Below w.heap.size w w1 := hbel.grown hgrow (by rw [hsz]; omega) (fun k e => by cases e)
      have hres1 : w1.heap[w.heap.size]? = some (.cells #[.int .i64 0, .slice none 0 0] 33 (0, 0)) := (hgrow.block _ (by rw [hsz]; omega) (by simp)).trans (unhide HRES)
      have hsl := slice_room (w.heap.size + 1) m hm7
      obtain ⟨w2, hcp, hown2, hgrow2⟩ := copy_own w1 (w.heap.size + 1) (w.heap.size + 2) (7 - m) (7 - m) ⟨w.heap.size + 1, m, none⟩ _ ((room.drop m).map (Value.int .u8)) hown (by simp; omega)
        (fun j v hj => by
          have hjl : j < 7 - m := by
            have := (List.getElem?_eq_some_iff.1 hj).1
            simp at this; omega
          rw [add_none, hsrc1 j hjl]
          rw [List.getElem?_map, List.getElem?_drop, List.getElem?_eq_getElem (by omega)] at hj
          rw [getD_at _ _ (by omega)]
          exact hj)
        (fun v hv => by obtain ⟨x, _, rfl⟩ := List.mem_map.1 hv; rfl)
      have hsz1 : w.heap.size + 2 ≤ w1.heap.size := by rw [← hsz]; exact hgrow.size
      have hbel2 : Below w.heap.size w w2 := hbel1.grown hgrow2 (by omega) (fun k e => by cases e; omega)
      have hres2 : w2.heap[w.heap.size]? = some (.cells #[.int .i64 0, .slice none 0 0] 33 (0, 0)) := (hgrow2.block _ (by omega) (by simp)).trans hres1
      have HB := hide hbel2
      have HR := hide hres2
      have HO := hide hown2
      have q0 : w2.cell? ⟨w.heap.size, 0, none⟩ = some (.int .i64 0) := by simp [World.cell?, hres2]
      have q1 : w2.cell? ⟨w.heap.size, 1, none⟩ = some (.slice none 0 0) := by simp [World.cell?, hres2]
      have f0 : w2.frozen? ⟨w.heap.size, 0, none⟩ = false := frozen_of_row w2 _ 0 _ 33 hres2
      have f1 : w2.frozen? ⟨w.heap.size, 1, none⟩ = false := frozen_of_row w2 _ 1 _ 33 hres2
      clear hown hgrow hsrc1 hbel1 hres1 hbel hown2 hgrow2 hbel2 hres2 HSRC HRES
      go_wp2_with fail
      refine bodyPost_ret (v := .agg #[.int .i64 0, .slice (some ⟨w.heap.size + 2, 0, none⟩) (7 - m) (7 - m)]) (by simp [results, Try.results60, go_sem, q0, q1]) rfl ⟨some ⟨w.heap.size + 2, 0, none⟩, 7 - m, ?_, ?_, ?_⟩
      · rw [unhide HDL]
      · rw [unhide HDL, unhide HD]
        exact ownsRow_base (ownsRow_setCell_below (ownsRow_setCell_below (unhide HO) (by simp) _) (by simp) _) (by omega)
      · exact ((unhide HB).setCell (by simp) _).setCell (by simp) _

theorem slice_room7 (b : Nat) (W : World) :
    (Instr.sliceAt 78 (.pointer (some ⟨b, 0, none⟩)) (some (.int .i64 7)) none none).run Try.prog W = .ok (.slice (some ⟨b, 0, none⟩) 0 0) W := by
  have hs : (sizeOf 5).run Try.prog W = .ok 1 W := by kernel_rfl
  have h := run_sliceAt_array_l (P := Try.prog) W 78 ⟨b, 0, none⟩ (by kernel_rfl) .i64 7 (by omega) (by show (7 : Int) ≤ ((7 : Nat) : Int); omega)
  rw [h]
  show ((sizeOf 5).run Try.prog W).andThen (fun s w => .ok (slicedAt ⟨b, 0, none⟩ 7 7 7 s) w) = _
  rw [hs]
  rfl

set_option maxHeartbeats 1000000 in
theorem implShort_zero (w : World) :
    Calls Try.prog 60 #[.int .i64 0] w fun e w' => ∃ a cap, e = .returned (.agg #[.int .i64 0, .slice a 0 cap]) ∧
      w'.ownsRow w.heap.size 5 1 (.slice a 0 cap) 0 [] ∧ Below w.heap.size w w' := by
  obtain ⟨i0, hi, hz0, hz1, hz2⟩ := info_parts info5
  have hsl := slice_room7 (w.heap.size + 1)
  have hcp := fun (W : World) (d a : Option Addr) => run_copy_none (P := Try.prog) W 22 22 3 5 d a 0 0 0 0 Try.underlying22 size5 rfl
  have hres := roomW_res0 w [0, 0, 0, 0, 0, 0, 0]
  have hbel := roomW_below w [0, 0, 0, 0, 0, 0, 0]
  have hsz := roomW_size w [0, 0, 0, 0, 0, 0, 0]
  have hroom : roomW w [0, 0, 0, 0, 0, 0, 0] = (w.alloc (.cells #[.int .i64 0, .slice none 0 0] 33)).alloc (.cells #[.int .u8 0, .int .u8 0, .int .u8 0, .int .u8 0, .int .u8 0, .int .u8 0, .int .u8 0] 78) := rfl
  rw [hroom] at hres hbel hsz
  have HRES := hide hres
  have HBEL := hide hbel
  have HSZ := hide hsz
  clear hres hbel hsz hroom
  go_enter Try.func60, Try.ntmps60
  go_wp2
  refine wp_loop_rounds 1 ?_
  rw [rounds_succ]
  go_wp2_with (at_make; refine wpList_make_full _ rfl _ _ 22 rfl (w.heap.size + 1) 5 i0 (.int .u8 0) 1 Try.underlying22 hi hz0 hz1 _ _ _ _ 0 rfl rfl rfl rfl ?c1 ?c2 ?c3 ?_)
  case c1 => omega
  case c2 => unfold maxLen; omega
  case c3 => simp
  intro w1 hown hgrow
  have hres1 : w1.heap[w.heap.size]? = some (.cells #[.int .i64 0, .slice none 0 0] 33 (0, 0)) := (hgrow.block _ (by rw [unhide HSZ]; omega) (by simp)).trans (unhide HRES)
  have hbel1 : Below w.heap.size w w1 := (unhide HBEL).grown hgrow (by rw [unhide HSZ]; omega) (fun k e => by cases e)
  have q0 : w1.cell? ⟨w.heap.size, 0, none⟩ = some (.int .i64 0) := by simp [World.cell?, hres1]
  have q1 : w1.cell? ⟨w.heap.size, 1, none⟩ = some (.slice none 0 0) := by simp [World.cell?, hres1]
  have f0 : w1.frozen? ⟨w.heap.size, 0, none⟩ = false := frozen_of_row w1 _ 0 _ 33 hres1
  have f1 : w1.frozen? ⟨w.heap.size, 1, none⟩ = false := frozen_of_row w1 _ 1 _ 33 hres1
  have HB := hide hbel1
  have HO := hide hown
  clear hown hgrow hbel1 hres1
  go_wp2_with fail
  refine bodyPost_ret (v := .agg #[.int .i64 0, .slice (some ⟨w.heap.size + 2, 0, none⟩) 0 0]) (by simp [results, Try.results60, go_sem, q0, q1]) rfl ⟨some ⟨w.heap.size + 2, 0, none⟩, 0, rfl, ?_, ?_⟩
  · have ho := unhide HO
    simp [toList_madeCells_one] at ho
    exact ownsRow_base (ownsRow_setCell_below (ownsRow_setCell_below ho (by simp) _) (by simp) _) (by omega)
  · exact ((unhide HB).setCell (by simp) _).setCell (by simp) _

/-- The code of a number's short bytes, and the bytes. -/
def sbCode (n : Int) : Int := if 0 ≤ n ∧ n ≤ 1125899906842624 then 0 else 3
def sbBytes (n : Int) : List Int := if 0 ≤ n ∧ n ≤ 1125899906842624 then shortF 7 n else []

theorem sbBytes_range (n : Int) : ∀ x ∈ sbBytes n, 0 ≤ x ∧ x ≤ 255 := by
  unfold sbBytes
  split
  · exact shortF_range 7 n
  · intro x hx; simp at hx

theorem sbBytes_length (n : Int) : (sbBytes n).length ≤ 7 := by
  unfold sbBytes
  split
  · exact shortF_length 7 n
  · simp

set_option maxHeartbeats 1000000 in
theorem implShort_out (n : Int) (w : World) (h : n < 0 ∨ 1125899906842624 < n) :
    Calls Try.prog 60 #[.int .i64 n] w fun e w' => e = .returned (.agg #[.int .i64 3, .slice none 0 0]) ∧ Below w.heap.size w w' := by
  rcases h with h | h
  · have h' : decide (n < 0) = true := decide_eq_true h
    go_enter Try.func60, Try.ntmps60
    go_wp2
    exact bodyPost_ret (v := .agg #[.int .i64 3, .slice none 0 0]) (by simp [results, Try.results60, go_sem]) rfl ⟨rfl, (Below.refl _ _).alloc (Nat.le_refl _) _⟩
  · have h' : decide (n < 0) = false := decide_eq_false (by omega)
    have h2 : decide (1125899906842624 < n) = true := decide_eq_true h
    go_enter Try.func60, Try.ntmps60
    go_wp2
    exact bodyPost_ret (v := .agg #[.int .i64 3, .slice none 0 0]) (by simp [results, Try.results60, go_sem]) rfl ⟨rfl, (Below.refl _ _).alloc (Nat.le_refl _) _⟩

theorem implShort_any (n : Int) (w : World) :
    Calls Try.prog 60 #[.int .i64 n] w fun e w' => ∃ a cap, e = .returned (.agg #[.int .i64 (sbCode n), .slice a (sbBytes n).length cap]) ∧
      w'.ownsRow w.heap.size 5 1 (.slice a (sbBytes n).length cap) (sbBytes n).length ((sbBytes n).map (Value.int .u8)) ∧ Below w.heap.size w w' := by
  by_cases hr : 0 ≤ n ∧ n ≤ 1125899906842624
  · have e1 : sbCode n = 0 := if_pos hr
    have e2 : sbBytes n = shortF 7 n := if_pos hr
    rw [e1, e2]
    by_cases h0 : 0 < n
    · exact implShort_pos n w h0 hr.2
    · obtain rfl : n = 0 := by omega
      rw [shortF_zero]
      exact implShort_zero w
  · have e1 : sbCode n = 3 := if_neg hr
    have e2 : sbBytes n = [] := if_neg hr
    rw [e1, e2]
    refine (implShort_out n w (by omega)).mono fun e w' hq => ?_
    exact ⟨none, 0, hq.1, World.ownsRow_nil _ _ _ _, hq.2⟩

end Go.Proofs.Ytlenpjbkbjdbeaa

/- What is proved here: what the fields of a BytesResult that lies as one value are. -/
namespace Go.Proofs.Ytlenpjbkbjdbeaa
open Go.RowKit
set_option linter.unusedVariables false

theorem fldB0 (x y : Value) (w : World) : (Instr.field 33 (.agg #[x, y]) 0).run Try.prog w = .ok x w := by kernel_rfl
theorem fldB1 (x y : Value) (w : World) : (Instr.field 33 (.agg #[x, y]) 1).run Try.prog w = .ok y w := by kernel_rfl

end Go.Proofs.Ytlenpjbkbjdbeaa

/- What is proved here: what the program's shortOf and addList answer. -/
namespace Go.Proofs.Ytlenpjbkbjdbeaa
open Go.RowKit
set_option linter.unusedVariables false

theorem shortOf_any (n : Int) (w : World) (h0 : 0 ≤ n) (h1 : n ≤ 1099511627776) :
    Calls Try.prog 51 #[.int .i64 n] w fun e w' => ∃ a c, e = .returned (.slice a (shortF 7 n).length c) ∧ w'.ownsRow w.heap.size 5 1 (.slice a (shortF 7 n).length c) (shortF 7 n).length ((shortF 7 n).map (Value.int .u8)) ∧ Below w.heap.size w w' := by
  have HS := hide (implShort_any n w)
  have e : sbBytes n = shortF 7 n := by unfold sbBytes; rw [if_pos ⟨h0, by omega⟩]
  rw [e] at HS
  have hf := fldB1
  clear e
  generalize shortF 7 n = L at HS
  generalize sbCode n = q at HS
  go_enter Try.func51, Try.ntmps51
  go_wp2_with fail
  refine (unhide HS).mono ?_
  rintro e w' ⟨a, c, rfl, o1, b1⟩
  have HO := hide o1
  have HB := hide b1
  clear o1 b1
  go_wp2_with fail
  go_ret
  exact ⟨a, c, rfl, unhide HO, unhide HB⟩

theorem Src.nil (w0 : World) (B : Nat) (W : World) : Src w0 B W (.slice none 0 0) [] := .inl ⟨none, 0, 0, rfl, ⟨rfl, fun n hn => by simp at hn, fun _ => rfl, fun x hx => by cases hx⟩, fun _ => rfl⟩

set_option maxHeartbeats 4000000 in
theorem addList_any (w0 : World) (B : Nat) (hw0 : w0.heap.size ≤ B) (a : Option Addr) (n c : Nat) (its : List It) (W : World) (hm : HkR w0 B W (.slice a n c) n its) (pa : Option Addr) (pn pc : Nat) (zss : List (List Int)) (hr : PRow w0 B W pa pn zss) (hB : B ≤ W.heap.size) (hn : n + 1 + pn ≤ 300) :
    Calls Try.prog 53 #[.slice a n c, .slice pa pn pc] W fun e w' => ∃ a' c', e = .returned (.slice a' (n + 1 + pn) c') ∧ HkR w0 B w' (.slice a' (n + 1 + pn) c') (n + 1 + pn) (its ++ [ls 0] ++ zss.map (lf (n : Int))) ∧ Kept W w' (.slice a n c) (.slice a' (n + 1 + pn) c') ∧ B ≤ w'.heap.size := by
  obtain ⟨i0, hi, hz0, hz1, hz2⟩ := info_parts infoIt
  have ba := below_alloc W (Obj.cells #[.bool true, .int .i64 0, .slice none 0 0] 66)
  obtain ⟨h1, h2, hb0, vs, h3, h4, h5⟩ := hm.below ba (Nat.le_refl _) hB
  have hra := hr.below ba (Nat.le_refl _)
  have hka := (Kept.refl W (.slice a n c)).below ba
  have zz : (W.alloc (Obj.cells #[.bool true, .int .i64 0, .slice none 0 0] 66)).heap.size = W.heap.size + 1 := by simp
  have H1 := hide h1
  have H2 := hide h2
  have H3 := hide h3
  have H5 := hide h5
  have HB0 := hide hb0
  have HRA := hide hra
  have HKA := hide hka
  have HPR := hide hr.1
  clear hm hr h1 h2 h3 h5 hb0 hra hka ba
  go_enter Try.func53, Try.ntmps53
  go_wp2_with (at_builtin; refine wpList_append_own_at _ rfl _ _ 55 rfl B 66 i0 (.agg #[.bool false, .int .i64 0, .slice none 0 0]) 3 40 Try.underlying55 hi hz0 hz1 hz2 rfl (by decide) _ _ _ rfl h4 ⟨W.heap.size, 0, none⟩ 1 1 [.bool true, .int .i64 0, .slice none 0 0] rfl rfl ?c1 ?c2 ?c3 ?c4 ?c5 ?_)
  case c1 => exact three_at _ _ _ _ _
  case c2 => intro u hu; simp at hu; rcases hu with rfl | rfl | rfl <;> rfl
  case c3 => unfold maxLen; omega
  case c4 => omega
  case c5 => omega
  intro v' w6 hown2 hgrow _ hblk
  obtain ⟨a6, c6, hv6⟩ := own_shape hown2
  subst hv6
  have M6 : HkR w0 B w6 (.slice a6 (n + 1) c6) (n + 1) (its ++ [ls 0]) := HkR.snoc (unhide H1) (unhide H2) (unhide HB0) (unhide H3) h4 (unhide H5) (by omega) (Src.nil w0 B _) ⟨by show (-9223372036854775808 : Int) ≤ 0; omega, by show (0 : Int) ≤ 9223372036854775807; omega, Nat.zero_le _⟩ hown2 hgrow
  have R6 := (unhide HRA).grown h4 hgrow
  have K6 := (unhide HKA).app hgrow (v2 := .slice a6 (n + 1) c6) (by rw [zz]; exact hblk)
  have z6 := hgrow.size
  rw [zz] at z6
  have HC := hide (addParts_any w0 B hw0 a6 (n + 1) c6 (its ++ [ls 0]) w6 M6 (n : Int) ⟨by omega, by omega⟩ pa pn pc zss R6 (by omega) (by omega))
  have HK6 := hide K6
  clear M6 R6 K6 hown2 hgrow hblk h4 H1 H2 H3 H5 HB0 HRA HKA zz z6
  go_wp2_with fail
  refine (unhide HC).mono ?_
  rintro e w7 ⟨a7, c7, rfl, m7, k7, z7⟩
  have HM7 := hide m7
  have HK7 := hide ((unhide HK6).trans k7)
  clear m7 k7
  go_wp2_with fail
  go_ret
  exact ⟨a7, c7, rfl, unhide HM7, unhide HK7, z7⟩

end Go.Proofs.Ytlenpjbkbjdbeaa

/- What is proved here: what the program's addVotes answers: the votes of a header as items behind others. -/
namespace Go.Proofs.Ytlenpjbkbjdbeaa
open Go.RowKit
set_option linter.unusedVariables false

/-- Slices of bytes that were there, as parts. -/
theorem prow_of {w0 : World} {a : Option Addr} {len : Nat} {zss : List (List Int)} (h : BsRow w0 a len zss) (hn : BsNil w0 a len) (B : Nat) (W : World) : PRow w0 B W a len zss := by
  rcases Nat.eq_zero_or_pos len with h0 | hp
  · subst h0
    have hz : zss = [] := List.length_eq_zero_iff.1 h.1
    subst hz
    exact ⟨rfl, fun z hz => by simp at hz, [], rfl, fun i z u hz => by simp at hz, .inr (.inr rfl)⟩
  · obtain ⟨b, off, rfl, _, hat⟩ := h.at hp
    refine ⟨h.1, h.2.1, (List.range len).map (fun i => (w0.cell? ⟨b, off + i, none⟩).getD undef), by simp, fun i z u hz hu => ?_, .inl ⟨b, off, rfl, fun i u hu => ?_⟩⟩
    · have hi : i < len := by have := (List.getElem?_eq_some_iff.1 hz).1; rw [h.1] at this; exact this
      obtain ⟨sa, sl, sc, hc, hr⟩ := hat i z hz
      obtain ⟨sa', sl', sc', hc', hnn⟩ := hn b off rfl i hi
      rw [hc] at hc'
      simp only [Option.some.injEq, Value.slice.injEq] at hc'
      obtain ⟨rfl, rfl, rfl⟩ := hc'
      rw [List.getElem?_map, List.getElem?_range hi] at hu
      simp only [Option.map_some, Option.some.injEq, hc, Option.getD_some] at hu
      exact .inl ⟨sa, sl, sc, hu.symm, hr, hnn⟩
    · have hi : i < len := by have := (List.getElem?_eq_some_iff.1 hu).1; simpa using this
      obtain ⟨z, hz⟩ : ∃ z, zss[i]? = some z := ⟨_, List.getElem?_eq_getElem (by rw [h.1]; exact hi)⟩
      obtain ⟨sa, sl, sc, hc, hr⟩ := hat i z hz
      rw [List.getElem?_map, List.getElem?_range hi] at hu
      simp only [Option.map_some, Option.some.injEq, hc, Option.getD_some] at hu
      rw [hc, hu]

/-- Parts that were laid side by side just now. -/
theorem prow_lit {w0 w1 : World} {B : Nat} (us : Array Value) (zss : List (List Int)) (hl : zss.length = us.size) (hB : B ≤ w1.heap.size) (hm : ∀ z ∈ zss, z.length ≤ maxLen) (hu1 : us.size ≤ 10) (hs : ∀ (i : Nat) (z : List Int) (u : Value), zss[i]? = some z → us.toList[i]? = some u → Src w0 B w1 u z) :
    PRow w0 B (w1.alloc (.cells us 22)) (some ⟨w1.heap.size, 0, none⟩) us.size zss :=
  ⟨hl, hm, us.toList, by simp, fun i z u hz hu => (hs i z u hz hu).below (below_alloc w1 _) (Nat.le_refl _), .inr (.inl ⟨us.size, World.ownsRow_lit w1 us us.size hB (by unfold maxLen; omega) (Nat.mul_one _).symm⟩)⟩

set_option maxRecDepth 100000 in
set_option maxHeartbeats 8000000 in
theorem addVotes_any (w0 : World) (B : Nat) (hw0 : w0.heap.size ≤ B) (x : HS) (h : Hd) (gd : HGood h) (ht : BRow w0 x.t.a x.t.n h.t) (hnt : x.t.a = none → x.t.c = 0) (hs : BsRow w0 x.s.a x.s.n h.s) (hns : BsNil w0 x.s.a x.s.n) (a : Option Addr) (n c : Nat) (its : List It) (W : World) (hm : HkR w0 B W (.slice a n c) n its) (hB : B ≤ W.heap.size) (hn : n ≤ 100) :
    Calls Try.prog 52 #[.agg #[.slice x.t.a x.t.n x.t.c, .int .i64 h.n5, .slice x.s.a x.s.n x.s.c], .slice a n c] W fun e w' => ∃ a' c', e = .returned (.slice a' (n + 2 + 1 + x.s.n) c') ∧ HkR w0 B w' (.slice a' (n + 2 + 1 + x.s.n) c') (n + 2 + 1 + x.s.n) (its ++ [lf 0 h.t, lf 0 (shortF 7 h.n5)] ++ [ls 0] ++ h.s.map (lf ((n + 2 : Nat) : Int))) ∧ Kept W w' (.slice a n c) (.slice a' (n + 2 + 1 + x.s.n) c') ∧ B ≤ w'.heap.size := by
  have kb := SBlk.new W #[.slice x.t.a x.t.n x.t.c, .int .i64 h.n5, .slice x.s.a x.s.n x.s.c] 45
  have bb := below_alloc W (.cells #[.slice x.t.a x.t.n x.t.c, .int .i64 h.n5, .slice x.s.a x.s.n x.s.c] 45)
  obtain ⟨Wb, eb⟩ : ∃ Wb, W.alloc (.cells #[.slice x.t.a x.t.n x.t.c, .int .i64 h.n5, .slice x.s.a x.s.n x.s.c] 45) = Wb := ⟨_, rfl⟩
  rw [eb] at kb bb
  have hmb := hm.below bb (Nat.le_refl _) hB
  have hkb := (Kept.refl W (.slice a n c)).below bb
  have hBb : B ≤ Wb.heap.size := Nat.le_trans hB bb.size
  have hsl : x.s.n ≤ 7 := by have := hs.1; have := gd.s; omega
  have hgv : W.heap.size < Wb.heap.size := kb.lt
  have hvb : ∀ q, (Value.slice a n c).ownBlock = some q → q < W.heap.size := fun q e => by obtain ⟨_, _, _, vs, _, h4, _⟩ := hm; exact (h4.lt q e).2
  have sl5 := sh_length h.n5
  have htl := gd.t
  have HAP : Hid (∀ (w1 : World) (a5 : Option Addr) (c5 : Nat), Below Wb.heap.size Wb w1 → w1.ownsRow Wb.heap.size 5 1 (.slice a5 (shortF 7 h.n5).length c5) (shortF 7 h.n5).length ((shortF 7 h.n5).map (Value.int .u8)) →
      Calls Try.prog 50 #[.slice a n c, .int .i64 0, .slice (some ⟨w1.heap.size, 0, none⟩) 2 2] (w1.alloc (.cells #[.slice x.t.a x.t.n x.t.c, .slice a5 (shortF 7 h.n5).length c5] 22)) fun e w' => ∃ a' c', e = .returned (.slice a' (n + 2) c') ∧ HkR w0 B w' (.slice a' (n + 2) c') (n + 2) (its ++ [lf 0 h.t, lf 0 (shortF 7 h.n5)]) ∧
        Kept Wb w' (.slice a n c) (.slice a' (n + 2) c') ∧ B ≤ w'.heap.size) := fun w1 a5 c5 hb1 ho => by
    have hB1 : B ≤ w1.heap.size := Nat.le_trans hBb hb1.size
    have m1 := (hmb.below hb1 (Nat.le_refl _) hBb).below (below_alloc w1 (.cells #[.slice x.t.a x.t.n x.t.c, .slice a5 (shortF 7 h.n5).length c5] 22)) (Nat.le_refl _) hB1
    have pr := prow_lit (w0 := w0) (B := B) (w1 := w1) #[.slice x.t.a x.t.n x.t.c, .slice a5 (shortF 7 h.n5).length c5] [h.t, shortF 7 h.n5] rfl hB1 (fun z hz => by simp at hz; rcases hz with rfl | rfl <;> (unfold maxLen; omega)) (by simp) (fun i z u hz hu => by
      match i with
      | 0 => simp at hz hu; subst hz hu; exact .inl ⟨_, _, _, rfl, ht, hnt⟩
      | 1 => simp at hz hu; subst hz hu; exact .inr ⟨ownsRow_base ho hBb, shortF_range 7 _⟩
      | k + 2 => simp at hz)
    refine (addParts_any w0 B hw0 a n c its _ m1 0 ⟨by omega, by omega⟩ _ 2 2 [h.t, shortF 7 h.n5] pr (by simp; omega) (by omega)).mono ?_
    rintro e w' ⟨a', c', he, hm', hk', hb'⟩
    exact ⟨a', c', he, hm', (((Kept.refl Wb (.slice a n c)).below hb1).below (below_alloc w1 _)).trans hk', hb'⟩
  have HSH := hide (fun W' => shortOf_any h.n5 W' gd.n5.1 (by have := gd.n5.2; omega))
  have HKB := hide kb
  have HK0 := hide hkb
  have HPS := hide (fun W' => prow_of hs hns B W')
  have HVB := hide hvb
  have HCE : Hid (∀ W', Below Wb.heap.size Wb W' → W'.cell? ⟨W.heap.size, 0, none⟩ = some (.slice x.t.a x.t.n x.t.c) ∧ W'.cell? ⟨W.heap.size, 1, none⟩ = some (.int .i64 h.n5)) := fun W' hb => ⟨(kb.below hb kb.lt).cell 0, (kb.below hb kb.lt).cell 1⟩
  clear hm hmb hkb kb bb hs hns ht hnt gd hvb
  generalize shortF 7 h.n5 = L5 at HAP HSH sl5
  go_enter Try.func52, Try.ntmps52
  go_upto_region 1 with (rw [eb])
  try rw [eb]
  clear eb
  go_wp2_with fail
  go_region_held3 (fun W' => W'.cell? ⟨W.heap.size, 0, none⟩ = some (.slice x.t.a x.t.n x.t.c) ∧ W'.cell? ⟨W.heap.size, 1, none⟩ = some (.int .i64 h.n5))
    (first | exact s2 | exact (unhide HCE) _ (by first | assumption | exact (Below.refl Wb.heap.size Wb).drew | exact below_drewN (Below.refl Wb.heap.size Wb) _ | exact Below.alloc (by assumption) (Below.size (by assumption)) _ | exact Below.mono (by assumption) (Nat.le_refl _)))
    (first
      | (go_at_call 51; refine ((unhide HSH) _).mono ?_; rintro e w1 ⟨a5, c5, rfl, o5, b5⟩; have K1 : Below Wb.heap.size Wb w1 := Below.trans (by first | exact (Below.refl Wb.heap.size Wb).drew | exact below_drewN (Below.refl Wb.heap.size Wb) _) b5)
      | (go_at_call 50; refine ((unhide HAP) w1 a5 c5 K1 o5).mono ?_; rintro e w2 ⟨a2, c2, rfl, m2, k2, z2⟩; have q2 : w2.heap[W.heap.size]? = Wb.heap[W.heap.size]? := k2.1 _ hgv (fun e => by have := (unhide HVB) _ e; omega); have s2 : w2.cell? ⟨W.heap.size, 0, none⟩ = some (.slice x.t.a x.t.n x.t.c) ∧ w2.cell? ⟨W.heap.size, 1, none⟩ = some (.int .i64 h.n5) := ⟨SBlk.cell (show SBlk w2 W.heap.size _ _ from q2.trans (unhide HKB)) 0, SBlk.cell (show SBlk w2 W.heap.size _ _ from q2.trans (unhide HKB)) 1⟩))
  all_goals
    have cS : w2.cell? ⟨W.heap.size, 2, none⟩ = some (.slice x.s.a x.s.n x.s.c) := by
      have hc : SBlk w2 W.heap.size _ _ := q2.trans (unhide HKB)
      exact hc.cell 2
    have HC := hide (addList_any w0 B hw0 a2 (n + 2) c2 _ w2 m2 x.s.a x.s.n x.s.c h.s ((unhide HPS) w2) z2 (by omega))
    have HK2 := hide ((unhide HK0).trans k2)
    clear m2 k2 q2 o5 b5 K1
    go_wp2_with fail
    refine (unhide HC).mono ?_
    rintro e w3 ⟨a3, c3, rfl, m3, k3, z3⟩
    have HM3 := hide m3
    have HK3 := hide ((unhide HK2).trans k3)
    clear m3 k3
    go_wp2_with fail
    go_ret
    exact ⟨a3, c3, rfl, unhide HM3, unhide HK3, z3⟩

end Go.Proofs.Ytlenpjbkbjdbeaa
