/- What is proved here: what the program's addParts and addList answer: items with some more behind them. -/
import Derived.Test.YtldiilmpmcbjkaaGreatDoorChecked
import Derived.Test.YtldiilmpmcbjkaaGreatDoorJ7
import Derived.Test.YtldiilmpmcbjkaaGreatDoorJ8
import Derived.Maps.AppendAt
import Derived.WalkKit
import Derived.WalkLawsBesides
import Derived.WalkSmall
import Derived.KernelRfl
import Derived.WalkSpells
import Derived.Test.YtldiilmpmcbjkaaGreatDoorJ1
import Derived.Laws.CopyOwn
import Derived.Laws.AppendOwnNone
import Derived.Test.YtldiilmpmcbjkaaGreatDoorJ5
namespace Go.Proofs.YtldiilmpmcbjkaaGreatDoor
open Go.RowKit
set_option linter.unusedVariables false
set_option maxRecDepth 100000

theorem infoIt : (Tryz.prog.info? 160).map (fun i => (i.zero, i.size, i.bytes)) = some (some (.agg #[.bool false, .int .i64 0, .slice none 0 0]), 3, 40) := by kernel_rfl

theorem three_at (w : World) (x y z : Value) (t : TypeId) : ∀ (j : Nat) (u : Value), [x, y, z][j]? = some u → (w.alloc (.cells #[x, y, z] t)).cell? ((⟨w.heap.size, 0, none⟩ : Addr).add j) = some u := by
  intro j u hj
  rw [add_none, Nat.zero_add, World.cell?_alloc_new]
  match j, hj with
  | 0, hj => simpa using hj
  | 1, hj => simpa using hj
  | 2, hj => simpa using hj

/-- All blocks that were there stay but the row's; and where the row lies then. -/
def Kept (W W' : World) (v v' : Value) : Prop := (∀ k, k < W.heap.size → v.ownBlock ≠ some k → W'.heap[k]? = W.heap[k]?) ∧ W.heap.size ≤ W'.heap.size ∧ (v'.ownBlock = v.ownBlock ∨ ∃ k, v'.ownBlock = some k ∧ W.heap.size ≤ k)

theorem Kept.refl (W : World) (v : Value) : Kept W W v v := ⟨fun _ _ _ => rfl, Nat.le_refl _, .inl rfl⟩

theorem Kept.below {W W1 W2 : World} {v v1 : Value} (h : Kept W W1 v v1) (hb : Below W1.heap.size W1 W2) : Kept W W2 v v1 := by
  obtain ⟨h1, h2, h3⟩ := h
  exact ⟨fun k hk hv => (hb.block k (by omega)).trans (h1 k hk hv), Nat.le_trans h2 hb.size, h3⟩

theorem Kept.app {W W1 W2 : World} {v v1 v2 : Value} (h : Kept W W1 v v1) (hg : W1.grownBy W2 v1.ownBlock) (ho : v2.ownBlock = v1.ownBlock ∨ v2.ownBlock = some W1.heap.size) : Kept W W2 v v2 := by
  obtain ⟨h1, h2, h3⟩ := h
  refine ⟨fun k hk hv => ?_, Nat.le_trans h2 hg.size, ?_⟩
  · rw [hg.block k (by omega) (fun e => ?_)]
    · exact h1 k hk hv
    · rcases h3 with h3 | ⟨q, h3, h4⟩
      · exact hv (by rw [← h3]; exact e.symm)
      · rw [h3] at e; have := Option.some.inj e; omega
  · rcases ho with ho | ho
    · rw [ho]; exact h3
    · exact .inr ⟨_, ho, h2⟩

theorem Kept.trans {W W1 W2 : World} {v v1 v2 : Value} (h : Kept W W1 v v1) (k : Kept W1 W2 v1 v2) : Kept W W2 v v2 := by
  obtain ⟨h1, h2, h3⟩ := h
  obtain ⟨k1, k2, k3⟩ := k
  refine ⟨fun q hq hv => ?_, Nat.le_trans h2 k2, ?_⟩
  · rw [k1 q (by omega) (fun e => ?_)]
    · exact h1 q hq hv
    · rcases h3 with h3 | ⟨b, h3, h4⟩
      · exact hv (by rw [← h3]; exact e)
      · rw [h3] at e; have := Option.some.inj e; omega
  · rcases k3 with k3 | ⟨b, k3, k4⟩
    · rw [k3]; exact h3
    · exact .inr ⟨b, k3, by omega⟩

theorem map_snoc (zss : List (List Int)) (k : Nat) (z : List Int) (p : Int) (h : zss[k]? = some z) : (zss.take (k + 1)).map (lf p) = (zss.take k).map (lf p) ++ [lf p z] := by
  obtain ⟨hk, e⟩ := List.getElem?_eq_some_iff.1 h
  rw [List.take_succ_eq_append_getElem hk, List.map_append, e]
  rfl

set_option maxHeartbeats 4000000 in
theorem addParts_any (w0 : World) (B : Nat) (hw0 : w0.heap.size ≤ B) (a : Option Addr) (n c : Nat) (its : List It) (W : World) (hm : HkR w0 B W (.slice a n c) n its) (p : Int) (hp : in64 p) (pa : Option Addr) (pn pc : Nat) (zss : List (List Int)) (hr : PRow w0 B W pa pn zss) (hB : B ≤ W.heap.size) (hn : n + pn ≤ 300) :
    Calls Tryz.prog 131 #[.slice a n c, .int .i64 p, .slice pa pn pc] W fun e w' => ∃ a' c', e = .returned (.slice a' (n + pn) c') ∧ HkR w0 B w' (.slice a' (n + pn) c') (n + pn) (its ++ zss.map (lf p)) ∧ Kept W w' (.slice a n c) (.slice a' (n + pn) c') ∧ B ≤ w'.heap.size := by
  obtain ⟨i0, hi, hz0, hz1, hz2⟩ := info_parts infoIt
  have hzl := hr.1
  have hml := hr.2.1
  have HM := hide hm
  have HR := hide hr
  have HZL := hide hzl
  have HML := hide hml
  have HSN := hide (map_snoc zss)
  have HP := hide hp
  clear hm hr hzl hml hp
  go_enter Tryz.func131, Tryz.ntmps131
  go_wp2_with fail
  go_loopw [0, 11] (fun s i wr => ∃ (k : Nat) (a' : Option Addr) (c' : Nat), k ≤ pn ∧ i = .int .i64 k ∧ s = .slice a' (n + k) c' ∧ HkR w0 B wr (.slice a' (n + k) c') (n + k) (its ++ (zss.take k).map (lf p)) ∧ PRow w0 B wr pa pn zss ∧ Kept W wr (.slice a n c) (.slice a' (n + k) c') ∧ B ≤ wr.heap.size) (fun _ i _ => pn - (intOf i).toNat)
  case atStart => exact ⟨0, a, c, Nat.zero_le _, rfl, rfl, by simpa using unhide HM, unhide HR, Kept.refl _ _, hB⟩
  case round =>
    obtain ⟨k, a1, c1, hk, rfl, rfl, hmk, hrk, hkk, hBk⟩ := hrel
    clear HM HR
    by_cases hlt : k < pn
    · obtain ⟨z, hit⟩ : ∃ z, zss[k]? = some z := ⟨_, List.getElem?_eq_getElem (by rw [unhide HZL]; exact hlt)⟩
      obtain ⟨pb, po, sa, sl, sc, rfl, cc, hs⟩ := hrk.at hmk.2.2.1 hw0 hit
      have hsn : its ++ (zss.take (k + 1)).map (lf p) = its ++ (zss.take k).map (lf p) ++ [lf p z] := by rw [(unhide HSN) k z p hit, List.append_assoc]
      generalize its ++ (zss.take k).map (lf p) = IS at hmk hsn
      have hzm := (unhide HML) z (List.mem_of_getElem? hit)
      have ba := below_alloc wr (Obj.cells #[.bool false, .int .i64 p, .slice sa sl sc] 160)
      obtain ⟨h1, h2, hb0, vs, h3, h4, h5⟩ := hmk.below ba (Nat.le_refl _) hBk
      have hsa := hs.below ba (Nat.le_refl _)
      have hra := hrk.below ba (Nat.le_refl _)
      have hka := hkk.below ba
      have zz : (wr.alloc (Obj.cells #[.bool false, .int .i64 p, .slice sa sl sc] 160)).heap.size = wr.heap.size + 1 := by simp
      have k1 : (0 : Int) ≤ (k : Int) := by omega
      have k2 : (k : Int) < (pn : Int) := by omega
      have HS := hide hsn
      have HOK : Hid (ItOk (lf p z)) := ⟨(unhide HP).1, (unhide HP).2, hzm⟩
      have H1 := hide h1
      have H2 := hide h2
      have H3 := hide h3
      have H5 := hide h5
      have HB0 := hide hb0
      have HSA := hide hsa
      have HRA := hide hra
      have HKA := hide hka
      clear hmk hrk hkk hs hsn hit hzm h1 h2 h3 h5 hb0 hsa hra hka ba
      go_wp2_with (at_builtin; refine wpList_append_own_at _ rfl _ _ 148 rfl B 160 i0 (.agg #[.bool false, .int .i64 0, .slice none 0 0]) 3 40 Tryz.underlying148 hi hz0 hz1 hz2 rfl (by decide) _ _ _ rfl h4 ⟨wr.heap.size, 0, none⟩ 1 1 [.bool false, .int .i64 p, .slice sa sl sc] rfl rfl ?c1 ?c2 ?c3 ?c4 ?c5 ?_)
      case c1 => exact three_at _ _ _ _ _
      case c2 => intro u hu; simp at hu; rcases hu with rfl | rfl | rfl <;> rfl
      case c3 => unfold maxLen; omega
      case c4 => omega
      case c5 => omega
      intro v' w6 hown2 hgrow _ hblk
      obtain ⟨a6, c6, hv6⟩ := own_shape hown2
      subst hv6
      have M6 : HkR w0 B w6 (.slice a6 (n + k + 1) c6) (n + k + 1) (IS ++ [lf p z]) := HkR.snoc (unhide H1) (unhide H2) (unhide HB0) (unhide H3) h4 (unhide H5) (by omega) (unhide HSA) (unhide HOK) hown2 hgrow
      have R6 := (unhide HRA).grown h4 hgrow
      have K6 := (unhide HKA).app hgrow (v2 := .slice a6 (n + k + 1) c6) (by rw [zz]; exact hblk)
      have z6 := hgrow.size
      rw [zz] at z6
      have HM6 := hide M6
      have HR6 := hide R6
      have HK6 := hide K6
      clear M6 R6 K6 hown2 hgrow hblk h4 H1 H2 H3 H5 HB0 HSA HRA HKA zz
      go_wp2_with fail
      go_roundw
      case rel => exact ⟨k + 1, a6, c6, by omega, by go_num, rfl, by rw [unhide HS]; exact unhide HM6, unhide HR6, unhide HK6, by omega⟩
      case measure => simp [intOf]; omega
    · obtain rfl : k = pn := by omega
      have et : zss.take k = zss := List.take_of_length_le (by rw [unhide HZL]; exact Nat.le_refl _)
      rw [et] at hmk
      have HMK := hide hmk
      have HKK := hide hkk
      clear hmk hrk hkk et
      go_wp2_with fail
      go_ret
      exact ⟨a1, c1, rfl, unhide HMK, unhide HKK, hBk⟩

end Go.Proofs.YtldiilmpmcbjkaaGreatDoor

/- What is proved here: what ShortBytes answers, in the program and in the model, for every number: the same code and the same bytes, in new memory. -/
namespace Go.Proofs.YtldiilmpmcbjkaaGreatDoor
open Go.RowKit
set_option linter.unusedVariables false
set_option maxRecDepth 100000

/-- The world in which impl.ShortBytes fills its room. -/
def roomW (w : World) (room : List Int) : World := (w.alloc (.cells #[.int .i64 0, .slice none 0 0] 111)).alloc (.cells (room.map (Value.int .u8)).toArray 186)

theorem roomW_cell (w : World) (room : List Int) (k : Nat) (h : k < room.length) : (roomW w room).cell? ⟨w.heap.size + 1, k, none⟩ = some (.int .u8 (room.getD k 0)) := by
  unfold roomW
  rw [World.cell?_alloc_at _ _ _ _ (by simp)]
  simp [h]

theorem roomW_frozen (w : World) (room : List Int) (k : Nat) : (roomW w room).frozen? ⟨w.heap.size + 1, k, none⟩ = false := by
  unfold roomW
  simp

theorem roomW_set (w : World) (room : List Int) (k : Nat) (z : Int) : (roomW w room).setCell ⟨w.heap.size + 1, k, none⟩ (.int .u8 z) = roomW w (room.set k z) := by
  unfold roomW
  rw [World.setCell_alloc_at _ _ _ _ _ (by simp)]
  simp [List.map_set]

theorem roomW_below (w : World) (room : List Int) : Below w.heap.size w (roomW w room) := ((Below.refl _ _).alloc (Nat.le_refl _) _).alloc (by simp) _

theorem roomW_size (w : World) (room : List Int) : (roomW w room).heap.size = w.heap.size + 2 := by simp [roomW]

theorem roomW_res0 (w : World) (room : List Int) : (roomW w room).heap[w.heap.size]? = some (.cells #[.int .i64 0, .slice none 0 0] 111 (0, 0)) := by
  unfold roomW
  show ((w.heap.push _).push _)[w.heap.size]? = _
  simp [Array.getElem?_push]

theorem own_cur {w : World} {B g d : Nat} {e : TypeId} {xs : List Value} (h : w.ownsRow B e 1 (.slice (some ⟨g, 0, none⟩) d d) d xs) : ∃ cur, w.heap[g]? = some (.cells cur e (0, 0)) ∧ cur.size = d := by
  rcases h.2 with ⟨h', _⟩ | ⟨g', cap', cur, h', hb, hg, hnc, hcm, hcs, htake⟩
  · simp at h'
  · simp only [Value.slice.injEq, Option.some.injEq, Addr.mk.injEq, and_true, true_and] at h'
    obtain ⟨rfl, rfl⟩ := h'
    exact ⟨cur, hg, by simpa using hcs⟩

theorem underRoom : Tryz.prog.underlying 186 = some (.array 7 5) := by kernel_rfl
theorem size5 : (Tryz.prog.info? 5).map (·.size) = some 1 := by kernel_rfl

theorem copy_own (w : World) (B g d sCap : Nat) (a : Addr) (xs cs : List Value) (h : w.ownsRow B 5 1 (.slice (some ⟨g, 0, none⟩) d d) d xs) (hl : cs.length = d)
    (hsrc : ∀ j v, cs[j]? = some v → w.cell? (a.add j) = some v) (h1 : ∀ v ∈ cs, v.oneCell' = true) :
    ∃ W, (Builtin.copy_ #[60, 60] 3 #[.slice (some ⟨g, 0, none⟩) d d, .slice (some a) d sCap]).run Tryz.prog w = .ok (goInt d) W ∧
      W.ownsRow B 5 1 (.slice (some ⟨g, 0, none⟩) d d) d cs ∧ w.grownBy W (some g) := by
  rcases h.2 with ⟨h', _⟩ | ⟨g', cap', cur, h', hb, hg, hnc, hcm, hcs, htake⟩
  · simp at h'
  · simp only [Value.slice.injEq, Option.some.injEq, Addr.mk.injEq, and_true, true_and] at h'
    obtain ⟨rfl, rfl⟩ := h'
    have hr := run_copy_row (P := Tryz.prog) w 60 60 3 5 g 0 d d a d sCap cur 5 cs Tryz.underlying60 size5 hg (by rw [hl]; exact (Nat.min_self d).symm) hsrc (by omega) h1
    have e1 : cur.toList.take 0 ++ cs ++ cur.toList.drop (0 + cs.length) = cs := by
      rw [List.drop_eq_nil_of_le (by simp; omega)]; simp
    rw [e1, hl] at hr
    exact ⟨_, hr, ⟨by simpa using hl, .inr ⟨g, d, cs.toArray, rfl, hb, setRow_heap w g cur _ 5 _ hg, Nat.le_refl _, hcm, by simpa using hl, by simp [← hl]⟩⟩,
      ⟨rfl, rfl, rfl, by simp [World.setRow], fun k _ hk => setRow_other w g k _ (fun e => hk (by simp [e]))⟩⟩

theorem slice_room (b m : Nat) (hm : m < 7) (W : World) :
    (Instr.sliceAt 186 (.pointer (some ⟨b, 0, none⟩)) (some (.int .i64 (m : Int))) none none).run Tryz.prog W = .ok (.slice (some ⟨b, m, none⟩) (7 - m) (7 - m)) W := by
  have hs : (sizeOf 5).run Tryz.prog W = .ok 1 W := by kernel_rfl
  have h := run_sliceAt_array_l (P := Tryz.prog) W 186 ⟨b, 0, none⟩ (by kernel_rfl) .i64 (m : Int) (by omega) (by show (m : Int) ≤ ((7 : Nat) : Int); omega)
  rw [h]
  show ((sizeOf 5).run Tryz.prog W).andThen (fun s w => .ok (slicedAt ⟨b, 0, none⟩ (m : Int).toNat 7 7 s) w) = _
  rw [hs]
  simp only [Result.andThen, slicedAt, Int.toNat_natCast, Nat.mul_one]
  rw [if_neg (by omega), add_none, Nat.zero_add]

set_option maxHeartbeats 1000000 in
theorem implShort_pos (n : Int) (w : World) (h0 : 0 < n) (h1 : n ≤ 1125899906842624) :
    Calls Tryz.prog 147 #[.int .i64 n] w fun e w' => ∃ a cap, e = .returned (.agg #[.int .i64 0, .slice a (shortF 7 n).length cap]) ∧
      w'.ownsRow w.heap.size 5 1 (.slice a (shortF 7 n).length cap) (shortF 7 n).length ((shortF 7 n).map (Value.int .u8)) ∧ Below w.heap.size w w' := by
  obtain ⟨i0, hi, hz0, hz1, hz2⟩ := info_parts info5
  have hst := Room.start n (by omega) h1
  have HST := hide hst
  clear hst
  go_enter Tryz.func147, Tryz.ntmps147
  go_wp2
  go_loopw [4, 5] (fun f r wr => ∃ (m : Nat) (rest : Int) (room : List Int), f = .int .i64 m ∧ r = .int .i64 rest ∧ wr = roomW w room ∧ Room n m rest room) (fun f _ _ => (intOf f).toNat)
  case atStart => exact ⟨7, n, _, rfl, rfl, rfl, unhide HST⟩
  case round =>
    obtain ⟨m, rest, room, rfl, rfl, rfl, hroom⟩ := hrel
    by_cases hr : 0 < rest
    · obtain ⟨k, rfl, hnext⟩ := hroom.step hr
      have hbd := hroom.bd
      have hk : k < 7 := by have := hroom.1; omega
      have HN := hide hnext
      have hlen := hroom.2.2.2.1
      clear hnext hroom HST
      have hcell := roomW_cell w room k (by omega)
      have hfz := roomW_frozen w room k
      have hset := roomW_set w room k (rest % 256)
      generalize room.getD k 0 = u at hcell
      go_wp2
      go_roundw
      case rel => exact ⟨k, rest / 256, _, rfl, rfl, rfl, unhide HN⟩
      case measure => simp [intOf]
    · obtain rfl : rest = 0 := by have := hroom.2.1; omega
      have HD := hide (hroom.done rfl)
      have hm : m ≤ 7 := hroom.1
      have hlen := hroom.2.2.2.1
      have hsz := roomW_size w room
      clear hroom HST
      have hm7 : m < 7 := by
        have hp := shortF_pos n h0
        rw [unhide HD, List.length_drop] at hp
        omega
      have hdl : (shortF 7 n).length = 7 - m := by rw [unhide HD, List.length_drop]; omega
      have HDL := hide hdl
      have hres := roomW_res0 w room
      have hbel := roomW_below w room
      have hsrc : ∀ j, j < 7 - m → (roomW w room).cell? ⟨w.heap.size + 1, m + j, none⟩ = some (.int .u8 (room.getD (m + j) 0)) := fun j hj => roomW_cell w room (m + j) (by omega)
      have HSRC := hide hsrc
      have HRES := hide hres
      clear hdl hsrc hres
      go_wp2_with (at_make; refine wpList_make_full _ rfl _ _ 60 rfl (w.heap.size + 1) 5 i0 (.int .u8 0) 1 Tryz.underlying60 hi hz0 hz1 _ _ _ _ (7 - m) rfl rfl (by omega) (by omega) ?c1 ?c2 ?c3 ?_)
      case c1 => omega
      case c2 => unfold maxLen; omega
      intro w1 hown hgrow
      have hsrc1 : ∀ j, j < 7 - m → w1.cell? ⟨w.heap.size + 1, m + j, none⟩ = some (.int .u8 (room.getD (m + j) 0)) := fun j hj => hgrow.cell ((unhide HSRC) j hj) (by simp)
      have hbel1 : Below w.heap.size w w1 := hbel.grown hgrow (by rw [hsz]; omega) (fun k e => by cases e)
      have hres1 : w1.heap[w.heap.size]? = some (.cells #[.int .i64 0, .slice none 0 0] 111 (0, 0)) := (hgrow.block _ (by rw [hsz]; omega) (by simp)).trans (unhide HRES)
      have hsl := slice_room (w.heap.size + 1) m hm7
      obtain ⟨w2, hcp, hown2, hgrow2⟩ := copy_own w1 (w.heap.size + 1) (w.heap.size + 2) (7 - m) (7 - m) ⟨w.heap.size + 1, m, none⟩ _ ((room.drop m).map (Value.int .u8)) hown (by simp; omega)
        (fun j v hj => by
          have hjl : j < 7 - m := by
            have := (List.getElem?_eq_some_iff.1 hj).1
            simp at this; omega
          rw [add_none, hsrc1 j hjl]
          rw [List.getElem?_map, List.getElem?_drop, List.getElem?_eq_getElem (by omega)] at hj
          rw [getD_at _ _ (by omega)]
          exact hj)
        (fun v hv => by obtain ⟨x, _, rfl⟩ := List.mem_map.1 hv; rfl)
      have hsz1 : w.heap.size + 2 ≤ w1.heap.size := by rw [← hsz]; exact hgrow.size
      have hbel2 : Below w.heap.size w w2 := hbel1.grown hgrow2 (by omega) (fun k e => by cases e; omega)
      have hres2 : w2.heap[w.heap.size]? = some (.cells #[.int .i64 0, .slice none 0 0] 111 (0, 0)) := (hgrow2.block _ (by omega) (by simp)).trans hres1
      have HB := hide hbel2
      have HR := hide hres2
      have HO := hide hown2
      have q0 : w2.cell? ⟨w.heap.size, 0, none⟩ = some (.int .i64 0) := by simp [World.cell?, hres2]
      have q1 : w2.cell? ⟨w.heap.size, 1, none⟩ = some (.slice none 0 0) := by simp [World.cell?, hres2]
      have f0 : w2.frozen? ⟨w.heap.size, 0, none⟩ = false := frozen_of_row w2 _ 0 _ 111 hres2
      have f1 : w2.frozen? ⟨w.heap.size, 1, none⟩ = false := frozen_of_row w2 _ 1 _ 111 hres2
      clear hown hgrow hsrc1 hbel1 hres1 hbel hown2 hgrow2 hbel2 hres2 HSRC HRES
      go_wp2_with fail
      refine bodyPost_ret (v := .agg #[.int .i64 0, .slice (some ⟨w.heap.size + 2, 0, none⟩) (7 - m) (7 - m)]) (by simp [results, Tryz.results147, go_sem, q0, q1]) rfl ⟨some ⟨w.heap.size + 2, 0, none⟩, 7 - m, ?_, ?_, ?_⟩
      · rw [unhide HDL]
      · rw [unhide HDL, unhide HD]
        exact ownsRow_base (ownsRow_setCell_below (ownsRow_setCell_below (unhide HO) (by simp) _) (by simp) _) (by omega)
      · exact ((unhide HB).setCell (by simp) _).setCell (by simp) _

theorem slice_room7 (b : Nat) (W : World) :
    (Instr.sliceAt 186 (.pointer (some ⟨b, 0, none⟩)) (some (.int .i64 7)) none none).run Tryz.prog W = .ok (.slice (some ⟨b, 0, none⟩) 0 0) W := by
  have hs : (sizeOf 5).run Tryz.prog W = .ok 1 W := by kernel_rfl
  have h := run_sliceAt_array_l (P := Tryz.prog) W 186 ⟨b, 0, none⟩ (by kernel_rfl) .i64 7 (by omega) (by show (7 : Int) ≤ ((7 : Nat) : Int); omega)
  rw [h]
  show ((sizeOf 5).run Tryz.prog W).andThen (fun s w => .ok (slicedAt ⟨b, 0, none⟩ 7 7 7 s) w) = _
  rw [hs]
  rfl

set_option maxHeartbeats 1000000 in
theorem implShort_zero (w : World) :
    Calls Tryz.prog 147 #[.int .i64 0] w fun e w' => ∃ a cap, e = .returned (.agg #[.int .i64 0, .slice a 0 cap]) ∧
      w'.ownsRow w.heap.size 5 1 (.slice a 0 cap) 0 [] ∧ Below w.heap.size w w' := by
  obtain ⟨i0, hi, hz0, hz1, hz2⟩ := info_parts info5
  have hsl := slice_room7 (w.heap.size + 1)
  have hcp := fun (W : World) (d a : Option Addr) => run_copy_none (P := Tryz.prog) W 60 60 3 5 d a 0 0 0 0 Tryz.underlying60 size5 rfl
  have hres := roomW_res0 w [0, 0, 0, 0, 0, 0, 0]
  have hbel := roomW_below w [0, 0, 0, 0, 0, 0, 0]
  have hsz := roomW_size w [0, 0, 0, 0, 0, 0, 0]
  have hroom : roomW w [0, 0, 0, 0, 0, 0, 0] = (w.alloc (.cells #[.int .i64 0, .slice none 0 0] 111)).alloc (.cells #[.int .u8 0, .int .u8 0, .int .u8 0, .int .u8 0, .int .u8 0, .int .u8 0, .int .u8 0] 186) := rfl
  rw [hroom] at hres hbel hsz
  have HRES := hide hres
  have HBEL := hide hbel
  have HSZ := hide hsz
  clear hres hbel hsz hroom
  go_enter Tryz.func147, Tryz.ntmps147
  go_wp2
  refine wp_loop_rounds 1 ?_
  rw [rounds_succ]
  go_wp2_with (at_make; refine wpList_make_full _ rfl _ _ 60 rfl (w.heap.size + 1) 5 i0 (.int .u8 0) 1 Tryz.underlying60 hi hz0 hz1 _ _ _ _ 0 rfl rfl rfl rfl ?c1 ?c2 ?c3 ?_)
  case c1 => omega
  case c2 => unfold maxLen; omega
  case c3 => simp
  intro w1 hown hgrow
  have hres1 : w1.heap[w.heap.size]? = some (.cells #[.int .i64 0, .slice none 0 0] 111 (0, 0)) := (hgrow.block _ (by rw [unhide HSZ]; omega) (by simp)).trans (unhide HRES)
  have hbel1 : Below w.heap.size w w1 := (unhide HBEL).grown hgrow (by rw [unhide HSZ]; omega) (fun k e => by cases e)
  have q0 : w1.cell? ⟨w.heap.size, 0, none⟩ = some (.int .i64 0) := by simp [World.cell?, hres1]
  have q1 : w1.cell? ⟨w.heap.size, 1, none⟩ = some (.slice none 0 0) := by simp [World.cell?, hres1]
  have f0 : w1.frozen? ⟨w.heap.size, 0, none⟩ = false := frozen_of_row w1 _ 0 _ 111 hres1
  have f1 : w1.frozen? ⟨w.heap.size, 1, none⟩ = false := frozen_of_row w1 _ 1 _ 111 hres1
  have HB := hide hbel1
  have HO := hide hown
  clear hown hgrow hbel1 hres1
  go_wp2_with fail
  refine bodyPost_ret (v := .agg #[.int .i64 0, .slice (some ⟨w.heap.size + 2, 0, none⟩) 0 0]) (by simp [results, Tryz.results147, go_sem, q0, q1]) rfl ⟨some ⟨w.heap.size + 2, 0, none⟩, 0, rfl, ?_, ?_⟩
  · have ho := unhide HO
    simp [toList_madeCells_one] at ho
    exact ownsRow_base (ownsRow_setCell_below (ownsRow_setCell_below ho (by simp) _) (by simp) _) (by omega)
  · exact ((unhide HB).setCell (by simp) _).setCell (by simp) _

/-- The code of a number's short bytes, and the bytes. -/
def sbCode (n : Int) : Int := if 0 ≤ n ∧ n ≤ 1125899906842624 then 0 else 3
def sbBytes (n : Int) : List Int := if 0 ≤ n ∧ n ≤ 1125899906842624 then shortF 7 n else []

theorem sbBytes_range (n : Int) : ∀ x ∈ sbBytes n, 0 ≤ x ∧ x ≤ 255 := by
  unfold sbBytes
  split
  · exact shortF_range 7 n
  · intro x hx; simp at hx

theorem sbBytes_length (n : Int) : (sbBytes n).length ≤ 7 := by
  unfold sbBytes
  split
  · exact shortF_length 7 n
  · simp

set_option maxHeartbeats 1000000 in
theorem implShort_out (n : Int) (w : World) (h : n < 0 ∨ 1125899906842624 < n) :
    Calls Tryz.prog 147 #[.int .i64 n] w fun e w' => e = .returned (.agg #[.int .i64 3, .slice none 0 0]) ∧ Below w.heap.size w w' := by
  rcases h with h | h
  · have h' : decide (n < 0) = true := decide_eq_true h
    go_enter Tryz.func147, Tryz.ntmps147
    go_wp2
    exact bodyPost_ret (v := .agg #[.int .i64 3, .slice none 0 0]) (by simp [results, Tryz.results147, go_sem]) rfl ⟨rfl, (Below.refl _ _).alloc (Nat.le_refl _) _⟩
  · have h' : decide (n < 0) = false := decide_eq_false (by omega)
    have h2 : decide (1125899906842624 < n) = true := decide_eq_true h
    go_enter Tryz.func147, Tryz.ntmps147
    go_wp2
    exact bodyPost_ret (v := .agg #[.int .i64 3, .slice none 0 0]) (by simp [results, Tryz.results147, go_sem]) rfl ⟨rfl, (Below.refl _ _).alloc (Nat.le_refl _) _⟩

theorem implShort_any (n : Int) (w : World) :
    Calls Tryz.prog 147 #[.int .i64 n] w fun e w' => ∃ a cap, e = .returned (.agg #[.int .i64 (sbCode n), .slice a (sbBytes n).length cap]) ∧
      w'.ownsRow w.heap.size 5 1 (.slice a (sbBytes n).length cap) (sbBytes n).length ((sbBytes n).map (Value.int .u8)) ∧ Below w.heap.size w w' := by
  by_cases hr : 0 ≤ n ∧ n ≤ 1125899906842624
  · have e1 : sbCode n = 0 := if_pos hr
    have e2 : sbBytes n = shortF 7 n := if_pos hr
    rw [e1, e2]
    by_cases h0 : 0 < n
    · exact implShort_pos n w h0 hr.2
    · obtain rfl : n = 0 := by omega
      rw [shortF_zero]
      exact implShort_zero w
  · have e1 : sbCode n = 3 := if_neg hr
    have e2 : sbBytes n = [] := if_neg hr
    rw [e1, e2]
    refine (implShort_out n w (by omega)).mono fun e w' hq => ?_
    exact ⟨none, 0, hq.1, World.ownsRow_nil _ _ _ _, hq.2⟩

end Go.Proofs.YtldiilmpmcbjkaaGreatDoor

/- What is proved here: what the fields of a BytesResult that lies as one value are. -/
namespace Go.Proofs.YtldiilmpmcbjkaaGreatDoor
open Go.RowKit
set_option linter.unusedVariables false
set_option maxRecDepth 100000

theorem fldB0 (x y : Value) (w : World) : (Instr.field 111 (.agg #[x, y]) 0).run Tryz.prog w = .ok x w := by kernel_rfl
theorem fldB1 (x y : Value) (w : World) : (Instr.field 111 (.agg #[x, y]) 1).run Tryz.prog w = .ok y w := by kernel_rfl

end Go.Proofs.YtldiilmpmcbjkaaGreatDoor

/- What is proved here: what the program's shortOf and addList answer. -/
namespace Go.Proofs.YtldiilmpmcbjkaaGreatDoor
open Go.RowKit
set_option linter.unusedVariables false
set_option maxRecDepth 100000

theorem shortOf_any (n : Int) (w : World) (h0 : 0 ≤ n) (h1 : n ≤ 1099511627776) :
    Calls Tryz.prog 132 #[.int .i64 n] w fun e w' => ∃ a c, e = .returned (.slice a (shortF 7 n).length c) ∧ w'.ownsRow w.heap.size 5 1 (.slice a (shortF 7 n).length c) (shortF 7 n).length ((shortF 7 n).map (Value.int .u8)) ∧ Below w.heap.size w w' := by
  have HS := hide (implShort_any n w)
  have e : sbBytes n = shortF 7 n := by unfold sbBytes; rw [if_pos ⟨h0, by omega⟩]
  rw [e] at HS
  have hf := fldB1
  clear e
  generalize shortF 7 n = L at HS
  generalize sbCode n = q at HS
  go_enter Tryz.func132, Tryz.ntmps132
  go_wp2_with fail
  refine (unhide HS).mono ?_
  rintro e w' ⟨a, c, rfl, o1, b1⟩
  have HO := hide o1
  have HB := hide b1
  clear o1 b1
  go_wp2_with fail
  go_ret
  exact ⟨a, c, rfl, unhide HO, unhide HB⟩

theorem Src.nil (w0 : World) (B : Nat) (W : World) : Src w0 B W (.slice none 0 0) [] := .inl ⟨none, 0, 0, rfl, ⟨rfl, fun n hn => by simp at hn, fun _ => rfl, fun x hx => by cases hx⟩, fun _ => rfl⟩

set_option maxHeartbeats 4000000 in
theorem addList_any (w0 : World) (B : Nat) (hw0 : w0.heap.size ≤ B) (a : Option Addr) (n c : Nat) (its : List It) (W : World) (hm : HkR w0 B W (.slice a n c) n its) (pa : Option Addr) (pn pc : Nat) (zss : List (List Int)) (hr : PRow w0 B W pa pn zss) (hB : B ≤ W.heap.size) (hn : n + 1 + pn ≤ 300) :
    Calls Tryz.prog 134 #[.slice a n c, .slice pa pn pc] W fun e w' => ∃ a' c', e = .returned (.slice a' (n + 1 + pn) c') ∧ HkR w0 B w' (.slice a' (n + 1 + pn) c') (n + 1 + pn) (its ++ [ls 0] ++ zss.map (lf (n : Int))) ∧ Kept W w' (.slice a n c) (.slice a' (n + 1 + pn) c') ∧ B ≤ w'.heap.size := by
  obtain ⟨i0, hi, hz0, hz1, hz2⟩ := info_parts infoIt
  have ba := below_alloc W (Obj.cells #[.bool true, .int .i64 0, .slice none 0 0] 160)
  obtain ⟨h1, h2, hb0, vs, h3, h4, h5⟩ := hm.below ba (Nat.le_refl _) hB
  have hra := hr.below ba (Nat.le_refl _)
  have hka := (Kept.refl W (.slice a n c)).below ba
  have zz : (W.alloc (Obj.cells #[.bool true, .int .i64 0, .slice none 0 0] 160)).heap.size = W.heap.size + 1 := by simp
  have H1 := hide h1
  have H2 := hide h2
  have H3 := hide h3
  have H5 := hide h5
  have HB0 := hide hb0
  have HRA := hide hra
  have HKA := hide hka
  have HPR := hide hr.1
  clear hm hr h1 h2 h3 h5 hb0 hra hka ba
  go_enter Tryz.func134, Tryz.ntmps134
  go_wp2_with (at_builtin; refine wpList_append_own_at _ rfl _ _ 148 rfl B 160 i0 (.agg #[.bool false, .int .i64 0, .slice none 0 0]) 3 40 Tryz.underlying148 hi hz0 hz1 hz2 rfl (by decide) _ _ _ rfl h4 ⟨W.heap.size, 0, none⟩ 1 1 [.bool true, .int .i64 0, .slice none 0 0] rfl rfl ?c1 ?c2 ?c3 ?c4 ?c5 ?_)
  case c1 => exact three_at _ _ _ _ _
  case c2 => intro u hu; simp at hu; rcases hu with rfl | rfl | rfl <;> rfl
  case c3 => unfold maxLen; omega
  case c4 => omega
  case c5 => omega
  intro v' w6 hown2 hgrow _ hblk
  obtain ⟨a6, c6, hv6⟩ := own_shape hown2
  subst hv6
  have M6 : HkR w0 B w6 (.slice a6 (n + 1) c6) (n + 1) (its ++ [ls 0]) := HkR.snoc (unhide H1) (unhide H2) (unhide HB0) (unhide H3) h4 (unhide H5) (by omega) (Src.nil w0 B _) ⟨by show (-9223372036854775808 : Int) ≤ 0; omega, by show (0 : Int) ≤ 9223372036854775807; omega, Nat.zero_le _⟩ hown2 hgrow
  have R6 := (unhide HRA).grown h4 hgrow
  have K6 := (unhide HKA).app hgrow (v2 := .slice a6 (n + 1) c6) (by rw [zz]; exact hblk)
  have z6 := hgrow.size
  rw [zz] at z6
  have HC := hide (addParts_any w0 B hw0 a6 (n + 1) c6 (its ++ [ls 0]) w6 M6 (n : Int) ⟨by omega, by omega⟩ pa pn pc zss R6 (by omega) (by omega))
  have HK6 := hide K6
  clear M6 R6 K6 hown2 hgrow hblk h4 H1 H2 H3 H5 HB0 HRA HKA zz z6
  go_wp2_with fail
  refine (unhide HC).mono ?_
  rintro e w7 ⟨a7, c7, rfl, m7, k7, z7⟩
  have HM7 := hide m7
  have HK7 := hide ((unhide HK6).trans k7)
  clear m7 k7
  go_wp2_with fail
  go_ret
  exact ⟨a7, c7, rfl, unhide HM7, unhide HK7, z7⟩

end Go.Proofs.YtldiilmpmcbjkaaGreatDoor

/- What is proved here: plain facts on rows that a call owns; no program is named. -/
namespace Go.Proofs.YtldiilmpmcbjkaaGreatDoor
open Go.RowKit
set_option linter.unusedVariables false
set_option maxRecDepth 100000

/-- What lies in a row that is owned is there behind a new block too. -/
theorem own_src {w : World} {B g n cap : Nat} {e : TypeId} {xs : List Value} (h : w.ownsRow B e 1 (.slice (some ⟨g, 0, none⟩) n cap) n xs) (o : Obj) (j : Nat) (u : Value) (hj : xs[j]? = some u) :
    (w.alloc o).cell? ((⟨g, 0, none⟩ : Addr).add j) = some u := by
  have hl := (List.getElem?_eq_some_iff.1 hj).1
  rw [h.1] at hl
  rw [add_none, Nat.zero_add, (own_below h (below_alloc w o) (Nat.le_refl _)).cellAt j hl, hj]

end Go.Proofs.YtldiilmpmcbjkaaGreatDoor

/- What is proved here: what the model's l1Short answers: the bytes of a number, in new memory. -/
namespace Go.Proofs.YtldiilmpmcbjkaaGreatDoor
open Go.RowKit
set_option linter.unusedVariables false
set_option maxRecDepth 100000

set_option maxHeartbeats 1000000 in
theorem l1Short_zero (w : World) : Calls Tryz.prog 106 #[.int .i64 0] w fun e w' => ∃ a cap, e = .returned (.slice a 0 cap) ∧
      w'.ownsRow w.heap.size 5 1 (.slice a 0 cap) 0 [] ∧ Below w.heap.size w w' := by
  go_enter Tryz.func106, Tryz.ntmps106
  go_wp2_with fail
  go_ret
  refine ⟨some ⟨w.heap.size, 0, none⟩, 0, rfl, ?_, (Below.refl _ _).alloc (Nat.le_refl _) _⟩
  exact World.ownsRow_lit w #[] 0 (Nat.le_refl _) (by unfold maxLen; omega) rfl

set_option maxHeartbeats 1000000 in
theorem l1Short_any (k : Nat) : ∀ (n : Int) (w : World), 0 ≤ n → n < 256 ^ k → n < 72057594037927936 → k ≤ 7 →
    Calls Tryz.prog 106 #[.int .i64 n] w fun e w' => ∃ a cap, e = .returned (.slice a (shortF k n).length cap) ∧
      w'.ownsRow w.heap.size 5 1 (.slice a (shortF k n).length cap) (shortF k n).length ((shortF k n).map (Value.int .u8)) ∧ Below w.heap.size w w' := by
  induction k with
  | zero =>
    intro n w h0 h1 _ _
    obtain rfl : n = 0 := by simp at h1; omega
    rw [shortF_zero]
    exact l1Short_zero w
  | succ k ih =>
    intro n w h0 h1 h2 hk
    by_cases hn : n = 0
    · subst hn
      rw [shortF_zero]
      exact l1Short_zero w
    · obtain ⟨i0, hi, hz0, hz1, hz2⟩ := info_parts info5
      obtain ⟨k', hk', hd⟩ := pow_step n (k + 1) (by omega) h1
      obtain rfl : k = k' := by omega
      have IH := ih (n / 256) w (by omega) hd (by omega) (by omega)
      have HI := hide IH
      have HS := hide (shortF_succ k n (by omega))
      have hL := shortF_length k (n / 256)
      have hne : (n == 0) = false := by rw [beq_eq_false_iff_ne]; exact hn
      clear IH ih hk' hd h1
      generalize shortF k (n / 256) = L at HI HS hL
      go_enter Tryz.func106, Tryz.ntmps106
      go_wp2_with fail
      refine (unhide HI).mono ?_
      rintro e w1 ⟨a, cap, rfl, hown, hbel⟩
      go_wp2_with (at_builtin; refine wpList_append_own _ rfl _ _ 60 rfl w.heap.size 5 i0 (.int .u8 0) 1 1 Tryz.underlying60 hi hz0 hz1 hz2 rfl (by decide) _ _ _ rfl (hown.alloc _) ⟨w1.heap.size, 0, none⟩ 1 1 [.int .u8 (n % 256)] rfl rfl ?c1 ?c2 ?c3 ?c4 ?c5 ?_)
      case c1 => exact cell_one_new _ _ _
      case c2 => intro u hu; simp at hu; subst hu; rfl
      case c3 => unfold maxLen; omega
      case c4 => omega
      case c5 => have := hbel.size; simp; omega
      intro v' w2 hown2 hgrow _
      obtain ⟨a2, cap2, hv⟩ := own_shape hown2
      have hb2 : Below w.heap.size w w2 := (hbel.alloc hbel.size _).grown hgrow (by have := hbel.size; simp; omega) (fun g e => (hown.lt g e).1)
      rw [hv] at hown2
      rw [hv]
      have HO := hide hown2
      have HB := hide hb2
      clear hown2 hb2 hgrow hown hbel
      go_wp2_with fail
      go_ret
      refine ⟨a2, cap2, ?_, ?_, unhide HB⟩
      · rw [unhide HS]; simp
      · rw [unhide HS]; simpa using unhide HO

end Go.Proofs.YtldiilmpmcbjkaaGreatDoor

/- What is proved here: what the model's l3Head answers: the head of an item, in new memory. -/
namespace Go.Proofs.YtldiilmpmcbjkaaGreatDoor
open Go.RowKit
set_option linter.unusedVariables false
set_option maxRecDepth 100000

set_option maxHeartbeats 1000000 in
theorem l3Head_small (l : Bool) (n : Int) (w : World) (h0 : 0 ≤ n) (h1 : n ≤ 55) :
    Calls Tryz.prog 125 #[.bool l, .int .i64 n] w fun e w' => ∃ a cap, e = .returned (.slice a (headL l n).length cap) ∧
      w'.ownsRow w.heap.size 5 1 (.slice a (headL l n).length cap) (headL l n).length ((headL l n).map (Value.int .u8)) ∧ Below w.heap.size w w' := by
  have e : headL l n = [headB l + n] := if_pos h1
  rw [e]
  have hd : decide (n ≤ 55) = true := decide_eq_true h1
  cases l
  all_goals
    go_enter Tryz.func125, Tryz.ntmps125
    go_wp2_with fail
    go_ret
    refine ⟨some ⟨w.heap.size, 0, none⟩, 1, rfl, ?_, (Below.refl _ _).alloc (Nat.le_refl _) _⟩
    exact World.ownsRow_lit w #[.int .u8 _] 1 (Nat.le_refl _) (by unfold maxLen; omega) rfl

set_option maxHeartbeats 1000000 in
theorem l3Head_long (l : Bool) (n : Int) (w : World) (h0 : 55 < n) (h1 : n < 16777216) :
    Calls Tryz.prog 125 #[.bool l, .int .i64 n] w fun e w' => ∃ a cap, e = .returned (.slice a (headL l n).length cap) ∧
      w'.ownsRow w.heap.size 5 1 (.slice a (headL l n).length cap) (headL l n).length ((headL l n).map (Value.int .u8)) ∧ Below w.heap.size w w' := by
  obtain ⟨i0, hi, hz0, hz1, hz2⟩ := info_parts info5
  have e : headL l n = (headB l + 55 + (shortF 7 n).length) :: shortF 7 n := if_neg (by omega)
  rw [e]
  have hd : decide (n ≤ 55) = false := decide_eq_false (by omega)
  have p : (256 : Int) ^ 7 = 72057594037927936 := by decide
  have HH := hide (l1Short_any 7 n w (by omega) (by rw [p]; omega) (by omega) (Nat.le_refl _))
  have hs3 := shortF_small n (by omega) h1
  have hs0 := shortF_pos n (by omega)
  have hrg := hide (shortF_range 7 n)
  clear e p
  generalize shortF 7 n = L at HH hs3 hs0 hrg
  cases l
  all_goals
    go_enter Tryz.func125, Tryz.ntmps125
    go_wp2_with fail
    refine (unhide HH).mono ?_
    rintro e w1 ⟨a, cap, rfl, hown, hbel⟩
    obtain ⟨g, cap', hv⟩ := own_some hown hs0
    simp only [Value.slice.injEq] at hv
    obtain ⟨rfl, _, rfl⟩ := hv
    have hr := BRow.own hown (unhide hrg)
    go_wp2_with (at_builtin; refine wpList_append_own _ rfl _ _ 60 rfl w.heap.size 5 i0 (.int .u8 0) 1 1 Tryz.underlying60 hi hz0 hz1 hz2 rfl (by decide) _ 1 [.int .u8 _] rfl (World.ownsRow_lit w1 #[.int .u8 _] 1 hbel.size (by unfold maxLen; omega) rfl) ⟨g, 0, none⟩ L.length _ (L.map (Value.int .u8)) rfl (by simp) ?c1 ?c2 ?c3 ?c4 ?c5 ?_)
    case c1 =>
      intro j u hj
      exact own_src hown _ j u hj
    case c2 => intro u hu; obtain ⟨x, _, rfl⟩ := List.mem_map.1 hu; rfl
    case c3 => unfold maxLen; omega
    case c4 => omega
    case c5 => have := hbel.size; simp; omega
    intro v' w2 hown2 hgrow _
    obtain ⟨a2, cap2, hv⟩ := own_shape hown2
    have hb2 : Below w.heap.size w w2 := (hbel.alloc hbel.size _).grown hgrow (by have := hbel.size; simp; omega) (fun g e => by cases e; exact hbel.size)
    rw [hv] at hown2
    rw [hv]
    have HO := hide hown2
    have HB := hide hb2
    clear hown2 hb2 hgrow hown hbel hr
    go_wp2_with fail
    go_ret
    refine ⟨a2, cap2, ?_, ?_, unhide HB⟩
    · rw [Nat.add_comm]; rfl
    · have := unhide HO
      rw [Nat.add_comm] at this
      simpa [headB] using this

theorem l3Head_any (l : Bool) (n : Int) (w : World) (h0 : 0 ≤ n) (h1 : n < 16777216) :
    Calls Tryz.prog 125 #[.bool l, .int .i64 n] w fun e w' => ∃ a cap, e = .returned (.slice a (headL l n).length cap) ∧
      w'.ownsRow w.heap.size 5 1 (.slice a (headL l n).length cap) (headL l n).length ((headL l n).map (Value.int .u8)) ∧ Below w.heap.size w w' := by
  by_cases h : n ≤ 55
  · exact l3Head_small l n w h0 h
  · exact l3Head_long l n w (by omega) h1

end Go.Proofs.YtldiilmpmcbjkaaGreatDoor

/- What is proved here: the model's copy of bytes gives the same bytes in new memory. -/
namespace Go.Proofs.YtldiilmpmcbjkaaGreatDoor
open Go.RowKit
set_option linter.unusedVariables false
set_option maxRecDepth 100000

set_option maxHeartbeats 1000000 in
theorem copy_any (a : Option Addr) (n cap : Nat) (zs : List Int) (w : World) (h : BRow w a n zs) (hcap : a = none → cap = 0) (hn : n ≤ 1048576) :
    Calls Tryz.prog 122 #[.slice a n cap] w fun e w' => ∃ (a' : Option Addr) (cap' : Nat), e = .returned (.slice a' n cap') ∧ w'.ownsRow w.heap.size 5 1 (.slice a' n cap') n (zs.map (Value.int .u8)) ∧ Below w.heap.size w w' := by
  obtain ⟨i0, hi, hz0, hz1, hz2⟩ := info_parts info5
  have hown0 : (w.alloc (.cells #[] 5)).ownsRow w.heap.size 5 1 (.slice (some ⟨w.heap.size, 0, none⟩) 0 0) 0 [] := World.ownsRow_lit w #[] 0 (Nat.le_refl _) (by unfold maxLen; omega) rfl
  have hb := below_alloc w (.cells #[] 5)
  have hr := h.below hb (Nat.le_refl _)
  cases a with
  | none =>
    obtain rfl : n = 0 := h.2.2.1 rfl
    obtain rfl : zs = [] := List.length_eq_zero_iff.1 h.1
    obtain rfl : cap = 0 := hcap rfl
    have HB := hide hb
    clear h hr hb
    go_enter Tryz.func122, Tryz.ntmps122
    go_wp2_with (at_builtin; refine wpList_append_own_none rfl _ _ 60 rfl w.heap.size 5 i0 1 Tryz.underlying60 hi _ _ _ rfl hown0 rfl ?_)
    go_ret
    exact ⟨_, _, rfl, hown0, unhide HB⟩
  | some x =>
    have HR := hide hr
    have hzl := h.1
    clear h hr
    go_enter Tryz.func122, Tryz.ntmps122
    go_wp2_with (at_builtin; refine wpList_append_own _ rfl _ _ 60 rfl w.heap.size 5 i0 (.int .u8 0) 1 1 Tryz.underlying60 hi hz0 hz1 hz2 rfl (by decide) _ _ _ rfl hown0 x n cap (zs.map (Value.int .u8)) rfl ?c0 ?c1 ?c2 ?c3 ?c4 ?c5 ?_)
    case c0 => simp [hzl]
    case c1 =>
      intro j u hj
      have hjl : j < zs.length := by have := (List.getElem?_eq_some_iff.1 hj).1; simpa using this
      rw [(unhide HR).2.2.2 x rfl j (by omega)]
      rw [List.getElem?_map, List.getElem?_eq_getElem hjl] at hj
      rw [getD_at _ _ hjl]
      exact hj
    case c2 => intro u hu; obtain ⟨z, _, rfl⟩ := List.mem_map.1 hu; rfl
    case c3 => unfold maxLen; omega
    case c4 => omega
    case c5 => simp
    intro v' w2 hown2 hgrow _
    obtain ⟨a2, cap2, hvv⟩ := own_shape hown2
    have hb2 : Below w.heap.size w w2 := hb.grown hgrow (by simp) (fun g e => by simp [Value.ownBlock] at e; omega)
    rw [hvv] at hown2
    rw [hvv]
    have HO := hide hown2
    have HB := hide hb2
    clear hown2 hb2 hgrow hvv hown0 hb
    go_wp2_with fail
    go_ret
    refine ⟨a2, cap2, ?_, ?_, unhide HB⟩
    · simp
    · simpa using unhide HO

end Go.Proofs.YtldiilmpmcbjkaaGreatDoor

/- What is proved here: bytes appended to a row that the call owns, whatever slice they come from, told in one law for the walk; it holds for every program. -/
namespace Go.Proofs.YtldiilmpmcbjkaaGreatDoor
open Go.RowKit
set_option linter.unusedVariables false
set_option maxRecDepth 100000

theorem wpList_append_brow {P : Program} (w : World) {ops : Array Oper} {rest : List Oper} {o : Oper} {a : Act} {Q : Exit → Act → World → Prop} (hgd : o.guard = none) (s x : Operand) (t : TypeId)
    (ho : o.op = .call { callee := .builtin .append, args := #[s, x], argTypes := #[t, t] }) (base : Nat) (i : TypeInfo) (ht : P.underlying t = some (.slice 5)) (hi : P.info? 5 = some i) (hz : i.zero = some (.int .u8 0)) (hsize : i.size = 1) (hby : i.bytes = 1)
    (v : Value) (n : Nat) (xs : List Int) (hs : a.eval s = v) (hown : w.ownsRow base 5 1 v n (xs.map (Value.int .u8))) (ad : Option Addr) (m c : Nat) (zs : List Int) (hx : a.eval x = .slice ad m c) (hr : BRow w ad m zs) (hc : ad = none → c = 0)
    (h63 : n + m ≤ 1099511627776) (hbase : base ≤ w.heap.size)
    (h : ∀ a' c' w', w'.ownsRow base 5 1 (.slice a' (n + m) c') (n + m) ((xs ++ zs).map (Value.int .u8)) → w.grownBy w' v.ownBlock → wpList P ops Q rest (a.put o.dst (.slice a' (n + m) c')) w') : wpList P ops Q (o :: rest) a w := by
  cases ad with
  | none =>
    obtain rfl : m = 0 := hr.2.2.1 rfl
    obtain rfl : zs = [] := List.length_eq_zero_iff.1 hr.1
    obtain rfl : c = 0 := hc rfl
    refine wpList_append_own_none hgd s x t ho base 5 i 1 ht hi v n _ hs hown hx ?_
    obtain ⟨a', c', hv⟩ := own_shape hown
    have := h a' c' w (by rw [Nat.add_zero, List.append_nil, ← hv]; exact hown) (grownBy_refl w _)
    rw [Nat.add_zero, ← hv] at this
    exact this
  | some ad =>
    refine wpList_append_own w hgd s x t ho base 5 i (.int .u8 0) 1 1 ht hi hz hsize hby rfl (by decide) v n _ hs hown ad m c (zs.map (Value.int .u8)) hx (by simp [hr.1]) ?_ ?_ ?_ ?_ hbase ?_
    · intro j u hj
      have hjl : j < zs.length := by have := (List.getElem?_eq_some_iff.1 hj).1; simpa using this
      rw [hr.2.2.2 ad rfl j (by rw [← hr.1]; exact hjl)]
      rw [List.getElem?_map, List.getElem?_eq_getElem hjl] at hj
      rw [getD_at _ _ hjl]
      exact hj
    · intro u hu; obtain ⟨z, _, rfl⟩ := List.mem_map.1 hu; rfl
    · unfold maxLen; omega
    · omega
    · intro v' w' hown' hg _
      obtain ⟨a', c', hv⟩ := own_shape hown'
      rw [hv] at hown' ⊢
      exact h a' c' w' (by rw [List.map_append]; exact hown') hg

/-- What is owned is no bare nil of some room. -/
theorem own_cap {w : World} {B n cap : Nat} {a : Option Addr} {e : TypeId} {xs : List Value} {size : Nat} (h : w.ownsRow B e size (.slice a n cap) n xs) : a = none → cap = 0 := by
  intro ha
  rcases h.2 with ⟨h', _⟩ | ⟨g, cap', cur, h', _⟩
  · simp only [Value.slice.injEq] at h'; exact h'.2.2
  · simp only [Value.slice.injEq] at h'; rw [ha] at h'; simp at h'

end Go.Proofs.YtldiilmpmcbjkaaGreatDoor

/- What is proved here: what the model's l3Piece and l3Wrap answer: bytes as an item, and what is in a list as an item, in new memory. -/
namespace Go.Proofs.YtldiilmpmcbjkaaGreatDoor
open Go.RowKit
set_option linter.unusedVariables false
set_option maxRecDepth 100000

/-- The head of bytes. -/
def pieceHd (z : List Int) : List Int := if z.length = 1 ∧ z.getD 0 0 < 128 then [] else headL false z.length

set_option maxHeartbeats 1000000 in
theorem l3Wrap_any (a : Option Addr) (n cap : Nat) (z : List Int) (w : World) (h : BRow w a n z) (hc : a = none → cap = 0) (hn : n ≤ 1048576) :
    Calls Tryz.prog 108 #[.slice a n cap] w fun e w' => ∃ a' cap', e = .returned (.slice a' (headL true n ++ z).length cap') ∧
      w'.ownsRow w.heap.size 5 1 (.slice a' (headL true n ++ z).length cap') (headL true n ++ z).length ((headL true n ++ z).map (Value.int .u8)) ∧ Below w.heap.size w w' := by
  obtain ⟨i0, hi, hz0, hz1, hz2⟩ := info_parts info5
  have HH := hide (l3Head_any true n w (by omega) (by omega))
  have hhl := headL_length true n
  have hzl := h.1
  have HR := hide (fun (W : World) (hb : Below w.heap.size w W) => h.below hb (Nat.le_refl _))
  generalize headL true n = L at HH hhl
  have HL : Hid ((L ++ z).length = L.length + n) := by show _ = _; rw [List.length_append, hzl]
  clear h hzl
  go_enter Tryz.func108, Tryz.ntmps108
  go_wp2_with fail
  refine (unhide HH).mono ?_
  rintro e w1 ⟨a1, c1, rfl, o1, b1⟩
  have hr := (unhide HR) w1 b1
  go_wp2_with (at_builtin; refine wpList_append_brow _ rfl _ _ 60 rfl w.heap.size i0 Tryz.underlying60 hi hz0 hz1 hz2 _ L.length L rfl o1 a n cap z rfl hr hc (by omega) b1.size ?_)
  intro a2 c2 w2 o2 g2
  have hb2 : Below w.heap.size w w2 := b1.grown g2 b1.size (fun g e => (o1.lt g e).1)
  have HO := hide o2
  have HB := hide hb2
  clear o2 hb2 g2 o1 b1 hr
  go_wp2_with fail
  go_ret
  refine ⟨a2, c2, ?_, ?_, unhide HB⟩
  · rw [unhide HL]; rfl
  · rw [unhide HL, List.map_append]; exact unhide HO

set_option maxHeartbeats 1000000 in
theorem l3Piece_any (a : Option Addr) (n cap : Nat) (z : List Int) (w : World) (h : BRow w a n z) (hc : a = none → cap = 0) (hn : n ≤ 1048576) :
    Calls Tryz.prog 105 #[.slice a n cap] w fun e w' => ∃ a' cap', e = .returned (.slice a' (pieceHd z ++ z).length cap') ∧
      w'.ownsRow w.heap.size 5 1 (.slice a' (pieceHd z ++ z).length cap') (pieceHd z ++ z).length ((pieceHd z ++ z).map (Value.int .u8)) ∧ Below w.heap.size w w' := by
  obtain ⟨i0, hi, hz0, hz1, hz2⟩ := info_parts info5
  have hzl := h.1
  by_cases t : n = 1 ∧ z.getD 0 0 < 128
  · obtain ⟨rfl, h128⟩ := t
    have e : pieceHd z = [] := if_pos ⟨hzl, h128⟩
    rw [e, List.nil_append]
    have HC := hide (copy_any a 1 cap z w h hc (by omega))
    obtain ⟨b, off, rfl, _, hcell⟩ := h.at (by omega)
    have c0 := hcell 0 (by omega)
    rw [Nat.add_zero] at c0
    generalize z.getD 0 0 = x at c0 h128
    have d1 : decide (x < 128) = true := decide_eq_true h128
    rw [hzl]
    clear h hc e hcell
    go_enter Tryz.func105, Tryz.ntmps105
    go_wp2_with fail
    refine (unhide HC).mono ?_
    rintro e w1 ⟨a1, c1, rfl, o1, b1⟩
    go_wp2_with fail
    go_ret
    exact ⟨a1, c1, rfl, o1, b1⟩
  · have e : pieceHd z = headL false n := by unfold pieceHd; rw [if_neg (by rw [hzl]; exact t), hzl]
    rw [e]
    have HH := hide (l3Head_any false n w (by omega) (by omega))
    have hhl := headL_length false n
    have HR := hide (fun (W : World) (hb : Below w.heap.size w W) => h.below hb (Nat.le_refl _))
    generalize headL false n = L at HH hhl
    have HL : Hid ((L ++ z).length = L.length + n) := by show _ = _; rw [List.length_append, hzl]
    by_cases t1 : n = 1
    · subst t1
      obtain ⟨b, off, rfl, _, hcell⟩ := h.at (by omega)
      have c0 := hcell 0 (by omega)
      rw [Nat.add_zero] at c0
      have h128 : ¬ z.getD 0 0 < 128 := fun hh => t ⟨rfl, hh⟩
      generalize z.getD 0 0 = x at c0 h128
      have d1 : decide (x < 128) = false := decide_eq_false h128
      clear h e hcell t hzl
      go_enter Tryz.func105, Tryz.ntmps105
      go_wp2_with fail
      refine (unhide HH).mono ?_
      rintro e w1 ⟨a1, c1, rfl, o1, b1⟩
      have hr := (unhide HR) w1 b1
      go_wp2_with (at_builtin; refine wpList_append_brow _ rfl _ _ 60 rfl w.heap.size i0 Tryz.underlying60 hi hz0 hz1 hz2 _ L.length L rfl o1 _ 1 cap z rfl hr hc (by omega) b1.size ?_)
      intro a2 c2 w2 o2 g2
      have hb2 : Below w.heap.size w w2 := b1.grown g2 b1.size (fun g e => (o1.lt g e).1)
      have HO := hide o2
      have HB := hide hb2
      clear o2 hb2 g2 o1 b1 hr
      go_wp2_with fail
      go_ret
      refine ⟨a2, c2, ?_, ?_, unhide HB⟩
      · rw [unhide HL]; rfl
      · rw [unhide HL, List.map_append]; exact unhide HO
    · have d1 : (((n : Nat) : Int) == 1) = false := by simp; omega
      clear h e t hzl
      go_enter Tryz.func105, Tryz.ntmps105
      go_wp2_with fail
      refine (unhide HH).mono ?_
      rintro e w1 ⟨a1, c1, rfl, o1, b1⟩
      have hr := (unhide HR) w1 b1
      go_wp2_with (at_builtin; refine wpList_append_brow _ rfl _ _ 60 rfl w.heap.size i0 Tryz.underlying60 hi hz0 hz1 hz2 _ L.length L rfl o1 a n cap z rfl hr hc (by omega) b1.size ?_)
      intro a2 c2 w2 o2 g2
      have hb2 : Below w.heap.size w w2 := b1.grown g2 b1.size (fun g e => (o1.lt g e).1)
      have HO := hide o2
      have HB := hide hb2
      clear o2 hb2 g2 o1 b1 hr
      go_wp2_with fail
      go_ret
      refine ⟨a2, c2, ?_, ?_, unhide HB⟩
      · rw [unhide HL]; rfl
      · rw [unhide HL, List.map_append]; exact unhide HO

end Go.Proofs.YtldiilmpmcbjkaaGreatDoor

/- What is proved here: what the model's l5List answers: slices of bytes as a list. -/
namespace Go.Proofs.YtldiilmpmcbjkaaGreatDoor
open Go.RowKit
set_option linter.unusedVariables false
set_option maxRecDepth 100000

theorem headL_rng (l : Bool) (n : Nat) (h : n ≤ 1048576) : ∀ x ∈ headL l n, 0 ≤ x ∧ x ≤ 255 := headL_range l n (by omega) (by omega)

theorem pcL_range (z : List Int) (hl : z.length ≤ 1048576) (h : ∀ x ∈ z, 0 ≤ x ∧ x ≤ 255) : ∀ x ∈ pcL z, 0 ≤ x ∧ x ≤ 255 := by
  intro x hx
  unfold pcL at hx
  rcases List.mem_append.1 hx with e | e
  · unfold pcHd at e
    split at e
    · simp at e
    · exact headL_rng false _ hl x e
  · exact h x e

theorem wrapL_range (z : List Int) (hl : z.length ≤ 1048576) (h : ∀ x ∈ z, 0 ≤ x ∧ x ≤ 255) : ∀ x ∈ wrapL z, 0 ≤ x ∧ x ≤ 255 := by
  intro x hx
  unfold wrapL at hx
  rcases List.mem_append.1 hx with e | e
  · exact headL_rng true _ hl x e
  · exact h x e

theorem pcsL_range (zss : List (List Int)) (hl : ∀ z ∈ zss, z.length ≤ 8) (h : ∀ z ∈ zss, ∀ x ∈ z, 0 ≤ x ∧ x ≤ 255) : ∀ x ∈ pcsL zss, 0 ≤ x ∧ x ≤ 255 := by
  intro x hx
  obtain ⟨z, hz, hxz⟩ := List.mem_flatMap.1 hx
  exact pcL_range z (by have := hl z hz; omega) (h z hz) x hxz

theorem flat_snoc (zss : List (List Int)) (k : Nat) (z : List Int) (h : zss[k]? = some z) : pcsL (zss.take (k + 1)) = pcsL (zss.take k) ++ pcL z := by
  obtain ⟨hk, e⟩ := List.getElem?_eq_some_iff.1 h
  unfold pcsL
  rw [List.take_succ_eq_append_getElem hk, List.flatMap_append, e]
  simp

theorem pcsL_take (zss : List (List Int)) (k : Nat) (h : ∀ z ∈ zss, z.length ≤ 8) (hl : zss.length ≤ 7) : (pcsL (zss.take k)).length ≤ 112 := by
  have := pcsL_length (zss.take k) (fun z hz => h z (List.mem_of_mem_take hz))
  have h2 : (zss.take k).length ≤ zss.length := by simp; omega
  omega

set_option maxHeartbeats 4000000 in
theorem l5List_any (a : Option Addr) (len cap : Nat) (zss : List (List Int)) (w : World) (h : BsRow w a len zss) (hn : BsNil w a len) (hl : len ≤ 7) (hz : ∀ z ∈ zss, z.length ≤ 8) :
    Calls Tryz.prog 107 #[.slice a len cap] w fun e w' => ∃ a' c', e = .returned (.slice a' (listL zss).length c') ∧
      w'.ownsRow w.heap.size 5 1 (.slice a' (listL zss).length c') (listL zss).length ((listL zss).map (Value.int .u8)) ∧ Below w.heap.size w w' := by
  obtain ⟨i0, hi, hz0, hz1, hz2⟩ := info_parts info5
  have hil := h.1
  have hby := h.bytes
  have o0 : (w.alloc (.cells #[] 5)).ownsRow w.heap.size 5 1 (.slice (some ⟨w.heap.size, 0, none⟩) 0 0) 0 (([] : List Int).map (Value.int .u8)) := World.ownsRow_lit w #[] 0 (Nat.le_refl _) (by unfold maxLen; omega) rfl
  have HW : Hid (∀ (W : World) (ab : Option Addr) (m cb : Nat), m = (pcsL zss).length → W.ownsRow w.heap.size 5 1 (.slice ab m cb) m ((pcsL zss).map (Value.int .u8)) → Calls Tryz.prog 108 #[.slice ab m cb] W fun e w' => ∃ a' c', e = .returned (.slice a' (listL zss).length c') ∧
      w'.ownsRow W.heap.size 5 1 (.slice a' (listL zss).length c') (listL zss).length ((listL zss).map (Value.int .u8)) ∧ Below W.heap.size W w') := fun W ab m cb hm ho => by
    subst hm
    have hlen := pcsL_length zss hz
    exact l3Wrap_any ab _ cb (pcsL zss) W (BRow.own2 ho (pcsL_range zss hz hby)) (own_cap ho) (by omega)
  have HROW := hide (fun (W : World) (hb : Below w.heap.size w W) => And.intro (h.below hb (Nat.le_refl _)) (hn.below hb (Nat.le_refl _)))
  have HTK := hide (fun k => pcsL_take zss k hz (by omega))
  have HFL := hide (flat_snoc zss)
  have HZ := hide hz
  have HBY := hide hby
  have HL := hide hil
  have HO0 := hide o0
  clear h hn hil hby o0 hz
  go_enter Tryz.func107, Tryz.ntmps107
  go_wp2_with fail
  go_loopw [3, 4] (fun s i wr => ∃ (k m : Nat) (ab : Option Addr) (cb : Nat), k ≤ len ∧ i = .int .i64 k ∧ m = (pcsL (zss.take k)).length ∧ s = .slice ab m cb ∧ wr.ownsRow w.heap.size 5 1 (.slice ab m cb) m ((pcsL (zss.take k)).map (Value.int .u8)) ∧ Below w.heap.size w wr) (fun _ i _ => len - (intOf i).toNat)
  case atStart => exact ⟨0, 0, _, 0, Nat.zero_le _, rfl, rfl, rfl, unhide HO0, below_alloc w _⟩
  case round =>
    obtain ⟨k, m, ab, cb, hk, rfl, hm, rfl, ob, hbr⟩ := hrel
    clear HO0
    by_cases hlt : k < len
    · obtain ⟨z, hit⟩ : ∃ z, zss[k]? = some z := ⟨_, List.getElem?_eq_getElem (by rw [unhide HL]; exact hlt)⟩
      obtain ⟨hrow, hnil⟩ := (unhide HROW) wr hbr
      obtain ⟨b, off, rfl, _, hat⟩ := hrow.at (by omega)
      obtain ⟨s1, n1, d1, c0, r1⟩ := hat k z hit
      obtain ⟨s1', n1', d1', c0', hnn⟩ := hnil b off rfl k hlt
      rw [c0] at c0'
      simp only [Option.some.injEq, Value.slice.injEq] at c0'
      obtain ⟨rfl, rfl, rfl⟩ := c0'
      have hz8 := (unhide HZ) z (List.mem_of_getElem? hit)
      have hzl : z.length = n1 := r1.1
      have HP := hide (l3Piece_any s1 n1 d1 z wr r1 hnn (by omega))
      have hpr := pcL_range z (by omega) ((unhide HBY) z (List.mem_of_getElem? hit))
      have hpl := pcL_length z
      have hs := (unhide HFL) k z hit
      have hml : m ≤ 112 := by rw [hm]; exact (unhide HTK) k
      change Hid (Calls _ _ _ _ (fun e w' => ∃ a' cap', e = .returned (.slice a' (pcL z).length cap') ∧ w'.ownsRow wr.heap.size 5 1 (.slice a' (pcL z).length cap') (pcL z).length ((pcL z).map (Value.int .u8)) ∧ Below wr.heap.size wr w')) at HP
      have HS := hide hs
      have HM := hide hm
      have HPR := hide hpr
      have hpl2 : (pcL z).length ≤ 16 := by omega
      generalize pcL z = P at HP HS HPR hpl2
      generalize pcsL (zss.take k) = L at ob HS HM
      have k1 : (0 : Int) ≤ (k : Int) := by omega
      have k2 : (k : Int) < (len : Int) := by omega
      have HOB := hide ob
      have HB := hide hbr
      clear hs hm ob hbr hit hrow hnil hat r1 hnn hpr hpl hzl hz8
      go_wp2_with fail
      refine (unhide HP).mono ?_
      rintro e w2 ⟨a2, c2, rfl, o2, b2⟩
      have ob2 := own_below (unhide HOB) b2 (Nat.le_refl _)
      have B2 := (unhide HB).trans (b2.mono (unhide HB).size)
      have hr2 := BRow.own2 o2 (unhide HPR)
      go_wp2_with (at_builtin; refine wpList_append_brow _ rfl _ _ 60 rfl w.heap.size i0 Tryz.underlying60 hi hz0 hz1 hz2 _ m L rfl ob2 a2 P.length c2 P rfl hr2 (own_cap o2) (by omega) B2.size ?_)
      intro a3 c3 w3 o3 g3
      have B3 : Below w.heap.size w w3 := B2.grown g3 B2.size (fun g e => (ob2.lt g e).1)
      have HO3 := hide o3
      have HB3 := hide B3
      clear o3 B3 g3 ob2 hr2 B2 o2 b2
      go_wp2_with fail
      go_roundw
      case rel => exact ⟨k + 1, m + P.length, a3, c3, by omega, by go_num, by rw [unhide HS, List.length_append, ← unhide HM], rfl, by rw [unhide HS, List.map_append]; exact unhide HO3, unhide HB3⟩
      case measure => simp [intOf]; omega
    · obtain rfl : k = len := by omega
      have et : zss.take k = zss := List.take_of_length_le (by rw [unhide HL]; exact Nat.le_refl _)
      rw [et] at hm ob
      have HC := hide ((unhide HW) wr ab m cb hm ob)
      have HB := hide hbr
      clear et hm ob hbr HW
      go_wp2_with fail
      refine (unhide HC).mono ?_
      rintro e w2 ⟨a2, c2, rfl, o2, b2⟩
      go_wp2_with fail
      go_ret
      exact ⟨a2, c2, rfl, ownsRow_base o2 (unhide HB).size, (unhide HB).trans (b2.mono (unhide HB).size)⟩

end Go.Proofs.YtldiilmpmcbjkaaGreatDoor
