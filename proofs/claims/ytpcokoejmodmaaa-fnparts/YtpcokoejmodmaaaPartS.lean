/- What is proved here: what the model's l3Parts and PartsOf answer: the code and the places of an item's parts, in new memory. -/
import Derived.Test.YtpcokoejmodmaaaChecked
import Derived.Test.YtpcokoejmodmaaaPartF
import Derived.Test.YtpcokoejmodmaaaFaultU
import Derived.Test.YtpcokoejmodmaaaIntI
import Derived.WalkKit
import Derived.WalkLawsBesides
import Derived.WalkSmall
import Derived.WalkSpells
import Derived.KernelRfl
namespace Go.Proofs.Ytpcokoejmodmaaa
open Go.RowKit
set_option linter.unusedVariables false

set_option maxHeartbeats 2000000 in
theorem l3Parts_any (a : Option Addr) (len cap : Nat) (its : List It) (at_ : Int) (w : World) (h : ItRow w a len its) (hl : len ≤ 1048576) (hp : 0 < len) :
    Calls Try.prog 21 #[.slice a len cap, .int .i64 at_] w fun e w' => ∃ a' cap', e = .returned (.slice a' (partsUp its at_ its.length).length cap') ∧
      w'.ownsRow w.heap.size 2 1 (.slice a' (partsUp its at_ its.length).length cap') (partsUp its at_ its.length).length ((partsUp its at_ its.length).map (Value.int .i64)) ∧ Below w.heap.size w w' := by
  obtain ⟨i0, hi, hz0, hz1, hz2⟩ := info_parts info2
  have hil := h.1
  obtain ⟨b, off, rfl, hb, hat⟩ := h.at hp
  have HAT := hide hat
  have HPL := hide (partsUp_length its at_)
  rw [hil]
  have HL := hide hil
  clear h hat hil
  have o0 : (w.alloc (.cells #[] 2)).ownsRow w.heap.size 2 1 (.slice (some ⟨w.heap.size, 0, none⟩) 0 0) 0 [] := World.ownsRow_lit w #[] 0 (Nat.le_refl _) (by unfold maxLen; omega) rfl
  have HO0 := hide o0
  clear o0
  go_enter Try.func21, Try.ntmps21
  go_wp2_with fail
  go_loopw [5, 6] (fun s i wr => ∃ (k n : Nat) (a' : Option Addr) (cap' : Nat), k ≤ len ∧ i = .int .i64 k ∧ n = (partsUp its at_ k).length ∧ s = .slice a' n cap' ∧ wr.ownsRow w.heap.size 2 1 (.slice a' n cap') n ((partsUp its at_ k).map (Value.int .i64)) ∧ Below w.heap.size w wr) (fun _ i _ => len - (intOf i).toNat)
  case atStart => exact ⟨0, 0, some ⟨w.heap.size, 0, none⟩, 0, Nat.zero_le _, rfl, rfl, rfl, unhide HO0, below_alloc w _⟩
  case round =>
    obtain ⟨k, n, a', cap', hk, rfl, hn, rfl, hown, hbr⟩ := hrel
    clear HO0
    by_cases hlt : k < len
    · obtain ⟨it, hit⟩ : ∃ it, its[k]? = some it := ⟨_, List.getElem?_eq_getElem (by rw [unhide HL]; exact hlt)⟩
      obtain ⟨sa, sl, sc, c0, c1, c2, _⟩ := ((unhide HAT) k it hit).below hbr (Nat.le_refl _)
      have i1 : (0 : Int) ≤ (k : Int) := by omega
      have i2 : (k : Int) < (len : Int) := by omega
      have hnk : n ≤ k := by rw [hn]; exact (unhide HPL) k
      by_cases he : it.p = at_
      · have hs := partsUp_yes hit he
        have HS := hide hs
        have HN := hide hn
        rw [he] at c1
        have hd : (at_ == at_) = true := by simp
        clear hs hn c0 c2 hit
        generalize partsUp its at_ k = L at hown HS HN
        go_wp2_with (at_builtin; refine wpList_append_own _ rfl _ _ 27 rfl w.heap.size 2 i0 (.int .i64 0) 1 8 Try.underlying27 hi hz0 hz1 hz2 rfl (by decide) _ _ _ rfl (hown.alloc _) ⟨wr.heap.size, 0, none⟩ 1 1 [.int .i64 (k : Int)] rfl rfl ?c1 ?c2 ?c3 ?c4 ?c5 ?_)
        case c1 => exact cell_one_new _ _ _
        case c2 => intro u hu; simp at hu; subst hu; rfl
        case c3 => unfold maxLen; omega
        case c4 => omega
        case c5 => have := hbr.size; simp; omega
        intro v' w2 hown2 hgrow _
        obtain ⟨a2, cap2, hv⟩ := own_shape hown2
        have hb2 : Below w.heap.size w w2 := (hbr.alloc hbr.size _).grown hgrow (by have := hbr.size; simp; omega) (fun g e => (hown.lt g e).1)
        rw [hv] at hown2
        rw [hv]
        have HO := hide hown2
        have HB := hide hb2
        clear hown2 hb2 hgrow hown hbr
        go_wp2_with fail
        go_roundw
        case rel => exact ⟨k + 1, n + 1, a2, cap2, by omega, by go_num, by rw [unhide HS, List.length_append, ← unhide HN]; rfl, rfl, by rw [unhide HS]; simpa using unhide HO, unhide HB⟩
        case measure => simp [intOf]; omega
      · have hs := partsUp_no hit he
        have HS := hide hs
        have HN := hide hn
        have HO := hide hown
        have HB := hide hbr
        have hd : (it.p == at_) = false := by simp [he]
        generalize it.p = ip at c1 hd
        clear hs hn c0 c2 hit hown hbr he
        go_wp2_with fail
        go_roundw
        case rel => exact ⟨k + 1, n, a', cap', by omega, by go_num, by rw [unhide HS]; exact unhide HN, rfl, by rw [unhide HS]; exact unhide HO, unhide HB⟩
        case measure => simp [intOf]; omega
    · obtain rfl : k = len := by omega
      have HO := hide hown
      have HB := hide hbr
      have HN := hide hn
      clear hown hbr hn
      go_wp2_with fail
      go_ret
      refine ⟨a', cap', ?_, ?_, unhide HB⟩
      · rw [← unhide HN]; rfl
      · rw [← unhide HN]; exact unhide HO

set_option maxHeartbeats 2000000 in
theorem specParts_any (a : Option Addr) (len cap : Nat) (its : List It) (at_ : Int) (w : World) (h : ItRow w a len its) (hl : len ≤ 1048576) :
    Calls Try.prog 8 #[.slice a len cap, .int .i64 at_] w fun e w' => ∃ a' cap', e = .returned (.agg #[.int .i64 (poCode its at_), .slice a' (poList its at_).length cap']) ∧
      w'.ownsRow w.heap.size 2 1 (.slice a' (poList its at_).length cap') (poList its at_).length ((poList its at_).map (Value.int .i64)) ∧ Below w.heap.size w w' := by
  have hout : ∀ o, Below w.heap.size w (w.alloc o) := fun o => below_alloc w o
  have HF : Hid (∀ W, Below w.heap.size w W → Calls Try.prog 19 #[.slice a len cap] W fun e w' => e = .returned (.int .i64 (itemsFlt its)) ∧ w' = W) := fun W hb => l3Fault_any a len cap its W (h.below hb (Nat.le_refl _)) hl
  have HOUT := hide hout
  have hil := h.1
  by_cases hf : itemsFlt its = 0
  · have hpos : 0 < len := by
      rcases Nat.eq_zero_or_pos len with e | e
      · have : itemsFlt its = 2 := by unfold itemsFlt; rw [if_pos (.inl (by omega))]
        omega
      · exact e
    rw [hf] at HF
    by_cases hr : 0 ≤ at_ ∧ at_ ≤ (len : Int) - 1
    · have e1 : poCode its at_ = 0 := by unfold poCode; rw [if_pos hf, hil, if_pos hr]
      have e2 : poList its at_ = partsUp its at_ its.length := by unfold poList; rw [if_pos ⟨hf, by rw [hil]; exact hr⟩]
      rw [e1, e2]
      have HI := hide (fun W => in_yes at_ 0 ((len : Int) - 1) W hr.1 hr.2)
      have HP := hide (fun (W : World) (hb : Below w.heap.size w W) => l3Parts_any a len cap its at_ W (h.below hb (Nat.le_refl _)) hl hpos)
      clear hout hf e1 e2 h
      generalize partsUp its at_ its.length = L at HP
      go_enter Try.func8, Try.ntmps8
      go_wp2_with fail
      refine ((unhide HF) _ ((unhide HOUT) _)).mono ?_
      rintro e w' ⟨rfl, rfl⟩
      go_wp2_with fail
      refine ((unhide HI) _).mono ?_
      rintro e w' ⟨rfl, rfl⟩
      go_wp2_with fail
      refine ((unhide HP) _ ((unhide HOUT) _)).mono ?_
      rintro e w2 ⟨a', cap', rfl, hown, hbel⟩
      have hsz : (w.alloc (.cells #[.int .i64 0, .slice none 0 0] 29)).heap.size = w.heap.size + 1 := by simp
      rw [hsz] at hown hbel
      have q0 : w2.cell? ⟨w.heap.size, 0, none⟩ = some (.int .i64 0) := (hbel.cell (by simp)).trans (by simp)
      have q1 : w2.cell? ⟨w.heap.size, 1, none⟩ = some (.slice none 0 0) := (hbel.cell (by simp)).trans (by simp)
      have f0 : w2.frozen? ⟨w.heap.size, 0, none⟩ = false := (hbel.frozen (by simp)).trans (by simp)
      have f1 : w2.frozen? ⟨w.heap.size, 1, none⟩ = false := (hbel.frozen (by simp)).trans (by simp)
      have hb2 : Below w.heap.size w w2 := ((unhide HOUT) _).trans (hbel.mono (by omega))
      have HB := hide hb2
      have HO := hide hown
      clear hb2 hown hbel hsz
      go_wp2_with fail
      refine bodyPost_ret (v := .agg #[.int .i64 0, .slice a' L.length cap']) (by simp [results, Try.results8, go_sem, q0, q1]) rfl ⟨a', cap', rfl, ?_, ?_⟩
      · exact ownsRow_base (ownsRow_setCell_below (ownsRow_setCell_below (unhide HO) (by simp) _) (by simp) _) (by omega)
      · exact ((unhide HB).setCell (by simp) _).setCell (by simp) _
    · have e1 : poCode its at_ = 3 := by unfold poCode; rw [if_pos hf, hil, if_neg hr]
      have e2 : poList its at_ = [] := by unfold poList; rw [if_neg (fun hh => hr (by rw [hil] at hh; exact hh.2))]
      rw [e1, e2]
      have HI := hide (fun W => in_no at_ 0 ((len : Int) - 1) W (by omega))
      clear hout hf e1 e2 h
      go_enter Try.func8, Try.ntmps8
      go_wp2_with fail
      refine ((unhide HF) _ ((unhide HOUT) _)).mono ?_
      rintro e w' ⟨rfl, rfl⟩
      go_wp2_with fail
      refine ((unhide HI) _).mono ?_
      rintro e w' ⟨rfl, rfl⟩
      go_wp2_with fail
      exact bodyPost_ret (v := .agg #[.int .i64 3, .slice none 0 0]) (by simp [results, Try.results8, go_sem]) rfl ⟨none, 0, rfl, World.ownsRow_nil _ _ _ _, (unhide HOUT) _⟩
  · have e1 : poCode its at_ = itemsFlt its := by unfold poCode; rw [if_neg hf]
    have e2 : poList its at_ = [] := by unfold poList; rw [if_neg (fun hh => hf hh.1)]
    rw [e1, e2]
    have hne : (itemsFlt its != 0) = true := by simp [hf]
    generalize itemsFlt its = c at HF hne
    clear hout e1 e2 h hf
    go_enter Try.func8, Try.ntmps8
    go_wp2_with fail
    refine ((unhide HF) _ ((unhide HOUT) _)).mono ?_
    rintro e w' ⟨rfl, rfl⟩
    go_wp2_with fail
    exact bodyPost_ret (v := .agg #[.int .i64 c, .slice none 0 0]) (by simp [results, Try.results8, go_sem]) rfl ⟨none, 0, rfl, World.ownsRow_nil _ _ _ _, (unhide HOUT) _⟩

end Go.Proofs.Ytpcokoejmodmaaa
