/- What is proved here: what the model's l5List answers: slices of bytes as a list. -/
import Derived.Test.YtlenpjbkbjdbeaaPkF
import Derived.Test.YtlenpjbkbjdbeaaEncS
import Derived.Test.YtlenpjbkbjdbeaaAppB
import Derived.Test.YtlenpjbkbjdbeaaOwnG
import Derived.WalkKit
import Derived.WalkSmall
import Derived.WalkSpells
namespace Go.Proofs.Ytlenpjbkbjdbeaa
open Go.RowKit
set_option linter.unusedVariables false

/-- None of the slices is a bare nil with some room. -/
def BsNil (w : World) (a : Option Addr) (len : Nat) : Prop := ∀ b off, a = some ⟨b, off, none⟩ → ∀ i, i < len → ∃ sa sl sc, w.cell? ⟨b, off + i, none⟩ = some (.slice sa sl sc) ∧ (sa = none → sc = 0)

theorem BsNil.below {w w' : World} {a : Option Addr} {len : Nat} (h : BsNil w a len) {B : Nat} (hb : Below B w w') (hB : w.heap.size ≤ B) : BsNil w' a len := by
  intro b off e i hi
  obtain ⟨sa, sl, sc, hc, hn⟩ := h b off e i hi
  exact ⟨sa, sl, sc, (hb.cell (Nat.lt_of_lt_of_le (lt_of_cell hc) hB)).trans hc, hn⟩

theorem headL_rng (l : Bool) (n : Nat) (h : n ≤ 1048576) : ∀ x ∈ headL l n, 0 ≤ x ∧ x ≤ 255 := headL_range l n (by omega) (by omega)

theorem pcL_range (z : List Int) (hl : z.length ≤ 1048576) (h : ∀ x ∈ z, 0 ≤ x ∧ x ≤ 255) : ∀ x ∈ pcL z, 0 ≤ x ∧ x ≤ 255 := by
  intro x hx
  unfold pcL at hx
  rcases List.mem_append.1 hx with e | e
  · unfold pcHd at e
    split at e
    · simp at e
    · exact headL_rng false _ hl x e
  · exact h x e

theorem wrapL_range (z : List Int) (hl : z.length ≤ 1048576) (h : ∀ x ∈ z, 0 ≤ x ∧ x ≤ 255) : ∀ x ∈ wrapL z, 0 ≤ x ∧ x ≤ 255 := by
  intro x hx
  unfold wrapL at hx
  rcases List.mem_append.1 hx with e | e
  · exact headL_rng true _ hl x e
  · exact h x e

theorem pcsL_range (zss : List (List Int)) (hl : ∀ z ∈ zss, z.length ≤ 8) (h : ∀ z ∈ zss, ∀ x ∈ z, 0 ≤ x ∧ x ≤ 255) : ∀ x ∈ pcsL zss, 0 ≤ x ∧ x ≤ 255 := by
  intro x hx
  obtain ⟨z, hz, hxz⟩ := List.mem_flatMap.1 hx
  exact pcL_range z (by have := hl z hz; omega) (h z hz) x hxz

theorem flat_snoc (zss : List (List Int)) (k : Nat) (z : List Int) (h : zss[k]? = some z) : pcsL (zss.take (k + 1)) = pcsL (zss.take k) ++ pcL z := by
  obtain ⟨hk, e⟩ := List.getElem?_eq_some_iff.1 h
  unfold pcsL
  rw [List.take_succ_eq_append_getElem hk, List.flatMap_append, e]
  simp

theorem pcsL_take (zss : List (List Int)) (k : Nat) (h : ∀ z ∈ zss, z.length ≤ 8) (hl : zss.length ≤ 7) : (pcsL (zss.take k)).length ≤ 112 := by
  have := pcsL_length (zss.take k) (fun z hz => h z (List.mem_of_mem_take hz))
  have h2 : (zss.take k).length ≤ zss.length := by simp; omega
  omega

set_option maxHeartbeats 4000000 in
theorem l5List_any (a : Option Addr) (len cap : Nat) (zss : List (List Int)) (w : World) (h : BsRow w a len zss) (hn : BsNil w a len) (hl : len ≤ 7) (hz : ∀ z ∈ zss, z.length ≤ 8) :
    Calls Try.prog 46 #[.slice a len cap] w fun e w' => ∃ a' c', e = .returned (.slice a' (listL zss).length c') ∧
      w'.ownsRow w.heap.size 5 1 (.slice a' (listL zss).length c') (listL zss).length ((listL zss).map (Value.int .u8)) ∧ Below w.heap.size w w' := by
  obtain ⟨i0, hi, hz0, hz1, hz2⟩ := info_parts info5
  have hil := h.1
  have hby := h.bytes
  have o0 : (w.alloc (.cells #[] 5)).ownsRow w.heap.size 5 1 (.slice (some ⟨w.heap.size, 0, none⟩) 0 0) 0 (([] : List Int).map (Value.int .u8)) := World.ownsRow_lit w #[] 0 (Nat.le_refl _) (by unfold maxLen; omega) rfl
  have HW : Hid (∀ (W : World) (ab : Option Addr) (m cb : Nat), m = (pcsL zss).length → W.ownsRow w.heap.size 5 1 (.slice ab m cb) m ((pcsL zss).map (Value.int .u8)) → Calls Try.prog 47 #[.slice ab m cb] W fun e w' => ∃ a' c', e = .returned (.slice a' (listL zss).length c') ∧
      w'.ownsRow W.heap.size 5 1 (.slice a' (listL zss).length c') (listL zss).length ((listL zss).map (Value.int .u8)) ∧ Below W.heap.size W w') := fun W ab m cb hm ho => by
    subst hm
    have hlen := pcsL_length zss hz
    exact l3Wrap_any ab _ cb (pcsL zss) W (BRow.own2 ho (pcsL_range zss hz hby)) (own_cap ho) (by omega)
  have HROW := hide (fun (W : World) (hb : Below w.heap.size w W) => And.intro (h.below hb (Nat.le_refl _)) (hn.below hb (Nat.le_refl _)))
  have HTK := hide (fun k => pcsL_take zss k hz (by omega))
  have HFL := hide (flat_snoc zss)
  have HZ := hide hz
  have HBY := hide hby
  have HL := hide hil
  have HO0 := hide o0
  clear h hn hil hby o0 hz
  go_enter Try.func46, Try.ntmps46
  go_wp2_with fail
  go_loopw [3, 4] (fun s i wr => ∃ (k m : Nat) (ab : Option Addr) (cb : Nat), k ≤ len ∧ i = .int .i64 k ∧ m = (pcsL (zss.take k)).length ∧ s = .slice ab m cb ∧ wr.ownsRow w.heap.size 5 1 (.slice ab m cb) m ((pcsL (zss.take k)).map (Value.int .u8)) ∧ Below w.heap.size w wr) (fun _ i _ => len - (intOf i).toNat)
  case atStart => exact ⟨0, 0, _, 0, Nat.zero_le _, rfl, rfl, rfl, unhide HO0, below_alloc w _⟩
  case round =>
    obtain ⟨k, m, ab, cb, hk, rfl, hm, rfl, ob, hbr⟩ := hrel
    clear HO0
    by_cases hlt : k < len
    · obtain ⟨z, hit⟩ : ∃ z, zss[k]? = some z := ⟨_, List.getElem?_eq_getElem (by rw [unhide HL]; exact hlt)⟩
      obtain ⟨hrow, hnil⟩ := (unhide HROW) wr hbr
      obtain ⟨b, off, rfl, _, hat⟩ := hrow.at (by omega)
      obtain ⟨s1, n1, d1, c0, r1⟩ := hat k z hit
      obtain ⟨s1', n1', d1', c0', hnn⟩ := hnil b off rfl k hlt
      rw [c0] at c0'
      simp only [Option.some.injEq, Value.slice.injEq] at c0'
      obtain ⟨rfl, rfl, rfl⟩ := c0'
      have hz8 := (unhide HZ) z (List.mem_of_getElem? hit)
      have hzl : z.length = n1 := r1.1
      have HP := hide (l3Piece_any s1 n1 d1 z wr r1 hnn (by omega))
      have hpr := pcL_range z (by omega) ((unhide HBY) z (List.mem_of_getElem? hit))
      have hpl := pcL_length z
      have hs := (unhide HFL) k z hit
      have hml : m ≤ 112 := by rw [hm]; exact (unhide HTK) k
      change Hid (Calls _ _ _ _ (fun e w' => ∃ a' cap', e = .returned (.slice a' (pcL z).length cap') ∧ w'.ownsRow wr.heap.size 5 1 (.slice a' (pcL z).length cap') (pcL z).length ((pcL z).map (Value.int .u8)) ∧ Below wr.heap.size wr w')) at HP
      have HS := hide hs
      have HM := hide hm
      have HPR := hide hpr
      have hpl2 : (pcL z).length ≤ 16 := by omega
      generalize pcL z = P at HP HS HPR hpl2
      generalize pcsL (zss.take k) = L at ob HS HM
      have k1 : (0 : Int) ≤ (k : Int) := by omega
      have k2 : (k : Int) < (len : Int) := by omega
      have HOB := hide ob
      have HB := hide hbr
      clear hs hm ob hbr hit hrow hnil hat r1 hnn hpr hpl hzl hz8
      go_wp2_with fail
      refine (unhide HP).mono ?_
      rintro e w2 ⟨a2, c2, rfl, o2, b2⟩
      have ob2 := own_below (unhide HOB) b2 (Nat.le_refl _)
      have B2 := (unhide HB).trans (b2.mono (unhide HB).size)
      have hr2 := BRow.own2 o2 (unhide HPR)
      go_wp2_with (at_builtin; refine wpList_append_brow _ rfl _ _ 22 rfl w.heap.size i0 Try.underlying22 hi hz0 hz1 hz2 _ m L rfl ob2 a2 P.length c2 P rfl hr2 (own_cap o2) (by omega) B2.size ?_)
      intro a3 c3 w3 o3 g3
      have B3 : Below w.heap.size w w3 := B2.grown g3 B2.size (fun g e => (ob2.lt g e).1)
      have HO3 := hide o3
      have HB3 := hide B3
      clear o3 B3 g3 ob2 hr2 B2 o2 b2
      go_wp2_with fail
      go_roundw
      case rel => exact ⟨k + 1, m + P.length, a3, c3, by omega, by go_num, by rw [unhide HS, List.length_append, ← unhide HM], rfl, by rw [unhide HS, List.map_append]; exact unhide HO3, unhide HB3⟩
      case measure => simp [intOf]; omega
    · obtain rfl : k = len := by omega
      have et : zss.take k = zss := List.take_of_length_le (by rw [unhide HL]; exact Nat.le_refl _)
      rw [et] at hm ob
      have HC := hide ((unhide HW) wr ab m cb hm ob)
      have HB := hide hbr
      clear et hm ob hbr HW
      go_wp2_with fail
      refine (unhide HC).mono ?_
      rintro e w2 ⟨a2, c2, rfl, o2, b2⟩
      go_wp2_with fail
      go_ret
      exact ⟨a2, c2, rfl, ownsRow_base o2 (unhide HB).size, (unhide HB).trans (b2.mono (unhide HB).size)⟩

end Go.Proofs.Ytlenpjbkbjdbeaa
