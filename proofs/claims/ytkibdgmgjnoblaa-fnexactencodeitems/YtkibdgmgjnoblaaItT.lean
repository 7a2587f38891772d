/- What is proved here: the contracts of the laws' helper functions that copy items (toItem, toItemS). -/
import Derived.Test.YtkibdgmgjnoblaaChecked
import Derived.Test.YtkibdgmgjnoblaaBase
import Derived.Test.YtkibdgmgjnoblaaInfo
import Derived.Test.YtkibdgmgjnoblaaByteS
import Derived.Test.YtkibdgmgjnoblaaItO
import Derived.WalkKit
import Derived.WalkLawsBesides
import Derived.WalkSmall
import Derived.KernelRfl
import Derived.WalkSpells
namespace Go.Proofs.Ytkibdgmgjnoblaa
open Go.RowKit
set_option linter.unusedVariables false

theorem infoItem : (Try.prog.info? 32).map (fun i => (i.zero, i.size, i.bytes)) = some (some (.agg #[.bool false, .int .i64 0, .slice none 0 0]), 3, 40) := by kernel_rfl

theorem own_vblk {w : World} {B g n : Nat} {e : TypeId} {size : Nat} {xs : List Value} (h : w.ownsRow B e size (.slice (some ⟨g, 0, none⟩) n n) n xs) : ∃ vs, VBlk w g vs e ∧ vs.length = n * size := by
  rcases h.2 with ⟨h', _⟩ | ⟨g', cap', cur, h', hb, hg, hnc, hcm, hcs, htake⟩
  · simp at h'
  · simp only [Value.slice.injEq, Option.some.injEq, Addr.mk.injEq, and_true, true_and] at h'
    obtain ⟨rfl, rfl⟩ := h'
    exact ⟨cur.toList, by unfold VBlk; simpa using hg, by simpa using hcs⟩

set_option maxHeartbeats 1000000 in
theorem toItem_any (l : Bool) (p : Int) (a : Option Addr) (n cap : Nat) (z : List Int) (w : World) (h : BRow w a n z) (hn : n ≤ 1048576) :
    Calls Try.prog 33 #[.agg #[.bool l, .int .i64 p, .slice a n cap]] w fun e w' => e = .returned (.agg #[.bool l, .int .i64 p, .slice (some ⟨w.heap.size + 3, 0, none⟩) n n]) ∧
      w'.ownsRow (w.heap.size + 3) 5 1 (.slice (some ⟨w.heap.size + 3, 0, none⟩) n n) n (z.map (Value.int .u8)) ∧ Below w.heap.size w w' := by
  have HR : Hid (∀ (W : World) (g : Nat), W.heap.size = g → Below w.heap.size w W → Calls Try.prog 49 #[.slice a n cap] W fun e w' => e = .returned (.slice (some ⟨g, 0, none⟩) n n) ∧
      w'.ownsRow g 5 1 (.slice (some ⟨g, 0, none⟩) n n) n (z.map (Value.int .u8)) ∧ Below g W w') := fun W g hg hb => by
    subst hg; exact toByteS_any a n cap z W (h.below hb (Nat.le_refl _)) hn
  clear h
  go_enter Try.func33, Try.ntmps33
  go_wp2_with fail
  refine ((unhide HR) _ (w.heap.size + 3) (by simp) ?hb).mono ?_
  case hb => exact (((Below.refl _ _).alloc (Nat.le_refl _) _).alloc (by simp) _).alloc (by simp; omega) _
  rintro e w1 ⟨rfl, o1, b1⟩
  have q0 : w1.cell? ⟨w.heap.size + 2, 0, none⟩ = some (.bool l) := (b1.cell (by simp)).trans (by simp [go_sem])
  have q1 : w1.cell? ⟨w.heap.size + 2, 1, none⟩ = some (.int .i64 p) := (b1.cell (by simp)).trans (by simp [go_sem])
  have q2 : w1.cell? ⟨w.heap.size + 2, 2, none⟩ = some (.slice none 0 0) := (b1.cell (by simp)).trans (by simp [go_sem])
  have q3 : w1.frozen? ⟨w.heap.size + 2, 2, none⟩ = false := (b1.frozen (by simp)).trans (by simp [go_sem])
  have r0 : w1.cell? ⟨w.heap.size + 1, 0, none⟩ = some (.bool false) := (b1.cell (by simp)).trans (by simp [go_sem])
  have r1 : w1.cell? ⟨w.heap.size + 1, 1, none⟩ = some (.int .i64 0) := (b1.cell (by simp)).trans (by simp [go_sem])
  have r2 : w1.cell? ⟨w.heap.size + 1, 2, none⟩ = some (.slice none 0 0) := (b1.cell (by simp)).trans (by simp [go_sem])
  have s0 : w1.frozen? ⟨w.heap.size + 1, 0, none⟩ = false := (b1.frozen (by simp)).trans (by simp [go_sem])
  have s1 : w1.frozen? ⟨w.heap.size + 1, 1, none⟩ = false := (b1.frozen (by simp)).trans (by simp [go_sem])
  have s2 : w1.frozen? ⟨w.heap.size + 1, 2, none⟩ = false := (b1.frozen (by simp)).trans (by simp [go_sem])
  have B1 : Below w.heap.size w w1 := ((((Below.refl w.heap.size w).alloc (Nat.le_refl _) _).alloc (by simp) _).alloc (by simp; omega) _).trans (b1.mono (by omega))
  have HO := hide o1
  have HB := hide B1
  clear o1 b1 B1
  go_wp2_with fail
  refine bodyPost_ret (v := .agg #[.bool l, .int .i64 p, .slice (some ⟨w.heap.size + 3, 0, none⟩) n n]) (by simp [results, Try.results33, go_sem, r0, r1, r2]) rfl ⟨rfl, ?_, ?_⟩
  · exact ownsRow_setCell_below (ownsRow_setCell_below (ownsRow_setCell_below (ownsRow_setCell_below (unhide HO) (by simp) _) (by simp) _) (by simp) _) (by simp) _
  · exact ((((unhide HB).setCell (by simp; omega) _).setCell (by simp) _).setCell (by simp) _).setCell (by simp) _

set_option maxHeartbeats 2000000 in
theorem toItemS_any (a : Option Addr) (len cap : Nat) (its : List It) (w : World) (h : ItRow w a len its) (hl : len ≤ 1048576) (hz : ∀ it ∈ its, it.z.length ≤ 1048576) :
    Calls Try.prog 14 #[.slice a len cap] w fun e w' => e = .returned (.slice (some ⟨w.heap.size, 0, none⟩) len len) ∧ OIts w' w.heap.size its 32 w'.heap.size ∧ Below w.heap.size w w' := by
  obtain ⟨i0, hi, hz0, hz1, hz2⟩ := info_parts infoItem
  have hil := h.1
  rcases Nat.eq_zero_or_pos len with h0 | hp
  · subst h0
    have hn : its = [] := List.length_eq_zero_iff.1 hil
    subst hn
    clear h hl hz
    go_enter Try.func14, Try.ntmps14
    go_wp2_with (at_make; refine wpList_make_full _ rfl _ _ 24 rfl w.heap.size 32 i0 (.agg #[.bool false, .int .i64 0, .slice none 0 0]) 3 Try.underlying24 hi hz0 hz1 _ _ _ _ 0 rfl rfl rfl rfl ?c1 ?c2 ?c3 ?_)
    case c1 => omega
    case c2 => unfold maxLen; omega
    case c3 => omega
    intro w1 hown hgrow
    go_wp2
    refine wp_loop_rounds 1 ?_
    rw [rounds_succ]
    go_wp2
    go_ret
    refine ⟨rfl, ?_, (Below.refl _ _).grown hgrow (Nat.le_refl _) (fun k e => by cases e)⟩
    obtain ⟨vs, hv, hvl⟩ := own_vblk hown
    exact OUpto.zero hv hvl
  · obtain ⟨b, off, rfl, hb, hc⟩ := h.at hp
    have HC := hide hc
    have HL := hide hil
    have HZ := hide hz
    clear h hc hil hz
    go_enter Try.func14, Try.ntmps14
    go_wp2_with (at_make; refine wpList_make_full _ rfl _ _ 24 rfl w.heap.size 32 i0 (.agg #[.bool false, .int .i64 0, .slice none 0 0]) 3 Try.underlying24 hi hz0 hz1 _ _ _ _ len rfl rfl rfl rfl ?c1 ?c2 ?c3 ?_)
    case c1 => rw [hz2]; omega
    case c2 => unfold maxLen; omega
    case c3 => omega
    intro w1 hown hgrow
    obtain ⟨vs, hv, hvl⟩ := own_vblk hown
    have hst : OUpto w1 w.heap.size its 0 len 32 w1.heap.size := OUpto.zero hv hvl
    have hbel : Below w.heap.size w w1 := (Below.refl _ _).grown hgrow (Nat.le_refl _) (fun k e => by cases e)
    clear hown hgrow hv hvl
    go_wp2_with fail
    go_loopw [4] (fun i wr => ∃ k : Nat, k ≤ len ∧ i = .int .i64 k ∧ OUpto wr w.heap.size its k len 32 wr.heap.size ∧ Below w.heap.size w wr) (fun i _ => len - (intOf i).toNat)
    case atStart => exact ⟨0, Nat.zero_le _, rfl, hst, hbel⟩
    case round =>
      obtain ⟨k, hk, rfl, hup, hbr⟩ := hrel
      clear hst hbel
      by_cases hlt : k < len
      · obtain ⟨it, hit⟩ : ∃ it, its[k]? = some it := ⟨_, List.getElem?_eq_getElem (by rw [unhide HL]; exact hlt)⟩
        have hat := (unhide HC k it hit).below hbr (Nat.le_refl _)
        have hio := (unhide HZ) it (List.mem_of_getElem? hit)
        obtain ⟨sa, sl, sc, c0, c1, c2, hbrow⟩ := hat
        have hsl : it.z.length = sl := hbrow.1
        rw [hsl] at hio
        have HT := hide (fun W hb => toItem_any it.l it.p sa sl sc it.z W (hbrow.below (w' := W) (B := wr.heap.size) hb (Nat.le_refl _)) hio)
        have HU := hide hup
        have HB := hide hbr
        have hs : w.heap.size < wr.heap.size := hup.lt
        have hstep : Hid (∀ w2 : World, Below wr.heap.size wr w2 → wr.heap.size + 3 < w2.heap.size → w2.ownsRow (wr.heap.size + 3) 5 1 (.slice (some ⟨wr.heap.size + 3, 0, none⟩) sl sl) sl (it.z.map (Value.int .u8)) →
            OUpto (((w2.setCell ⟨w.heap.size, k * 3, none⟩ (.bool it.l)).setCell ⟨w.heap.size, k * 3 + 1, none⟩ (.int .i64 it.p)).setCell ⟨w.heap.size, k * 3 + 2, none⟩ (.slice (some ⟨wr.heap.size + 3, 0, none⟩) sl sl)) w.heap.size its (k + 1) len 32 w2.heap.size) := fun w2 hb hm ho => by
          subst hsl
          exact hup.step hlt hit hb (by omega) hm (ownsRow_base ho (by omega))
        have hslot := hide (fun (w2 : World) (hb : Below wr.heap.size wr w2) => (hup.below hb (Nat.le_refl _)).slot hlt)
        generalize it.l = bl at c0 HT hstep
        generalize it.p = bp at c1 HT hstep
        generalize it.z = bz at HT hstep
        have i1 : (0 : Int) ≤ (k : Int) := by omega
        have i2 : (k : Int) < (len : Int) := by omega
        clear hup hbr hbrow hsl hit
        go_wp2_with fail
        refine ((unhide HT) _ (Below.refl _ _)).mono ?_
        rintro e w2 ⟨rfl, o2, b2⟩
        obtain ⟨⟨u0, g0⟩, ⟨u1, g1⟩, ⟨u2, g2⟩, gf⟩ := (unhide hslot) w2 b2
        have hm : wr.heap.size + 3 < w2.heap.size := (o2.lt (wr.heap.size + 3) rfl).2
        have HN := hide ((unhide hstep) w2 b2 hm o2)
        have HB2 := hide ((unhide HB).trans (b2.mono (unhide HB).size))
        clear o2 b2 hslot hstep
        go_wp2_with fail
        go_roundw
        case rel => exact ⟨k + 1, by omega, by go_num, by rw [size_set, size_set, size_set]; exact unhide HN, (((unhide HB2).setCell (Nat.le_refl _) _).setCell (Nat.le_refl _) _).setCell (Nat.le_refl _) _⟩
        case measure => simp [intOf]; omega
      · obtain rfl : k = len := by omega
        have HU := hide hup
        have HB := hide hbr
        clear hup hbr
        go_wp2_with fail
        go_ret
        refine ⟨rfl, ?_, unhide HB⟩
        unfold OIts
        rw [unhide HL]
        exact unhide HU

end Go.Proofs.Ytkibdgmgjnoblaa
