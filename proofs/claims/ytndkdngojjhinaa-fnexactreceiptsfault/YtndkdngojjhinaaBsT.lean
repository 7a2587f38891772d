/- What is proved here: the contract of the laws' helper function that copies slices of slices of bytes (toByteSS). -/
import Derived.Test.YtndkdngojjhinaaChecked
import Derived.Test.YtndkdngojjhinaaBase
import Derived.Test.YtndkdngojjhinaaByteS
import Derived.Test.YtndkdngojjhinaaBsO
import Derived.WalkKit
import Derived.WalkLawsBesides
import Derived.WalkSmall
import Derived.KernelRfl
import Derived.WalkSpells
namespace Go.Proofs.Ytndkdngojjhinaa
open Go.RowKit
set_option linter.unusedVariables false
set_option maxRecDepth 100000

theorem infoSB : (Try.prog.info? 28).map (fun i => (i.zero, i.size, i.bytes)) = some (some (.slice none 0 0), 1, 24) := by kernel_rfl

set_option maxHeartbeats 2000000 in
theorem toByteSS_any (a : Option Addr) (len cap : Nat) (zss : List (List Int)) (w : World) (h : BsRow w a len zss) (hl : len ≤ 1048576) (hz : ∀ z ∈ zss, z.length ≤ 1048576) :
    Calls Try.prog 7 #[.slice a len cap] w fun e w' => e = .returned (.slice (some ⟨w.heap.size, 0, none⟩) len len) ∧ OBss w' w.heap.size zss 28 w'.heap.size ∧ Below w.heap.size w w' := by
  obtain ⟨i0, hi, hz0, hz1, hz2⟩ := info_parts infoSB
  have hil := h.1
  rcases Nat.eq_zero_or_pos len with h0 | hp
  · subst h0
    have hn : zss = [] := List.length_eq_zero_iff.1 hil
    subst hn
    clear h hl hz
    go_enter Try.func7, Try.ntmps7
    go_wp2_with (at_make; refine wpList_make_full _ rfl _ _ 22 rfl w.heap.size 28 i0 (.slice none 0 0) 1 Try.underlying22 hi hz0 hz1 _ _ _ _ 0 rfl rfl rfl rfl ?c1 ?c2 ?c3 ?_)
    case c1 => omega
    case c2 => unfold maxLen; omega
    case c3 => omega
    intro w1 hown hgrow
    go_wp2
    refine wp_loop_rounds 1 ?_
    rw [rounds_succ]
    go_wp2
    go_ret
    refine ⟨rfl, ?_, (Below.refl _ _).grown hgrow (Nat.le_refl _) (fun k e => by cases e)⟩
    obtain ⟨vs, hv, hvl⟩ := own_sblk hown
    exact BUpto.zero hv (by simpa using hvl)
  · obtain ⟨b, off, rfl, hb, hc⟩ := h.at hp
    have HC := hide hc
    have HL := hide hil
    have HZ := hide hz
    clear h hc hil hz
    go_enter Try.func7, Try.ntmps7
    go_wp2_with (at_make; refine wpList_make_full _ rfl _ _ 22 rfl w.heap.size 28 i0 (.slice none 0 0) 1 Try.underlying22 hi hz0 hz1 _ _ _ _ len rfl rfl rfl rfl ?c1 ?c2 ?c3 ?_)
    case c1 => rw [hz2]; omega
    case c2 => unfold maxLen; omega
    case c3 => omega
    intro w1 hown hgrow
    obtain ⟨vs, hv, hvl⟩ := own_sblk hown
    have hst : BUpto w1 w.heap.size zss 0 len 28 w1.heap.size := BUpto.zero hv (by simpa using hvl)
    have hbel : Below w.heap.size w w1 := (Below.refl _ _).grown hgrow (Nat.le_refl _) (fun k e => by cases e)
    clear hown hgrow hv hvl
    go_wp2_with fail
    go_loopw [4] (fun i wr => ∃ k : Nat, k ≤ len ∧ i = .int .i64 k ∧ BUpto wr w.heap.size zss k len 28 wr.heap.size ∧ Below w.heap.size w wr) (fun i _ => len - (intOf i).toNat)
    case atStart => exact ⟨0, Nat.zero_le _, rfl, hst, hbel⟩
    case round =>
      obtain ⟨k, hk, rfl, hup, hbr⟩ := hrel
      clear hst hbel
      by_cases hlt : k < len
      · obtain ⟨z, hit⟩ : ∃ z, zss[k]? = some z := ⟨_, List.getElem?_eq_getElem (by rw [unhide HL]; exact hlt)⟩
        have hat := (unhide HC k z hit).below hbr (Nat.le_refl _)
        have hio := (unhide HZ) z (List.mem_of_getElem? hit)
        obtain ⟨sa, sl, sc, c0, hbrow⟩ := hat
        have hsl : z.length = sl := hbrow.1
        rw [hsl] at hio
        have HT := hide (fun W hb => toByteS_any sa sl sc z W (hbrow.below (w' := W) (B := wr.heap.size) hb (Nat.le_refl _)) hio)
        have HB := hide hbr
        have hs : w.heap.size < wr.heap.size := hup.lt
        have hstep : Hid (∀ w2 : World, Below wr.heap.size wr w2 → wr.heap.size < w2.heap.size → w2.ownsRow wr.heap.size 5 1 (.slice (some ⟨wr.heap.size, 0, none⟩) sl sl) sl (z.map (Value.int .u8)) →
            BUpto (w2.setCell ⟨w.heap.size, k, none⟩ (.slice (some ⟨wr.heap.size, 0, none⟩) sl sl)) w.heap.size zss (k + 1) len 28 w2.heap.size) := fun w2 hb hm ho => by
          subst hsl
          exact hup.step hlt hit hb (by omega) hm (ownsRow_base ho (by omega))
        have hslot := hide (fun (w2 : World) (hb : Below wr.heap.size wr w2) => (hup.below hb (Nat.le_refl _)).slot hlt)
        generalize z = bz at HT hstep
        have i1 : (0 : Int) ≤ (k : Int) := by omega
        have i2 : (k : Int) < (len : Int) := by omega
        clear hup hbr hbrow hsl hit
        go_wp2_with fail
        refine ((unhide HT) _ (Below.refl _ _)).mono ?_
        rintro e w2 ⟨rfl, o2, b2⟩
        obtain ⟨⟨u0, g0⟩, gf⟩ := (unhide hslot) w2 b2
        have hm : wr.heap.size < w2.heap.size := (o2.lt wr.heap.size rfl).2
        have HN := hide ((unhide hstep) w2 b2 hm o2)
        have HB2 := hide ((unhide HB).trans (b2.mono (unhide HB).size))
        clear o2 b2 hslot hstep
        go_wp2_with fail
        go_roundw
        case rel => exact ⟨k + 1, by omega, by go_num, by rw [size_set']; exact unhide HN, (unhide HB2).setCell (Nat.le_refl _) _⟩
        case measure => simp [intOf]; omega
      · obtain rfl : k = len := by omega
        have HU := hide hup
        have HB := hide hbr
        clear hup hbr
        go_wp2_with fail
        go_ret
        refine ⟨rfl, ?_, unhide HB⟩
        unfold OBss
        rw [unhide HL]
        exact unhide HU

end Go.Proofs.Ytndkdngojjhinaa
