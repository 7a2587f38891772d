/- What is proved here: what the program's PartsOf answers: the code and the places of an item's parts, in new memory. -/
import Derived.Test.YtpcokoejmodmaaaChecked
import Derived.Test.YtpcokoejmodmaaaPartF
import Derived.Test.YtpcokoejmodmaaaFaultJ
import Derived.Test.YtpcokoejmodmaaaIntI
import Derived.Test.YtpcokoejmodmaaaBehR
import Derived.WalkKit
import Derived.WalkLawsBesides
import Derived.WalkSmall
import Derived.WalkSpells
import Derived.KernelRfl
namespace Go.Proofs.Ytpcokoejmodmaaa
open Go.RowKit
set_option linter.unusedVariables false

set_option maxHeartbeats 4000000 in
theorem implParts_any (a : Option Addr) (len cap : Nat) (its : List It) (at_ : Int) (w : World) (h : ItRow w a len its) (hl : len ≤ 1048576) :
    Calls Try.prog 7 #[.slice a len cap, .int .i64 at_] w fun e w' => ∃ a' cap', e = .returned (.agg #[.int .i64 (poCode its at_), .slice a' (poList its at_).length cap']) ∧
      w'.ownsRow w.heap.size 2 1 (.slice a' (poList its at_).length cap') (poList its at_).length ((poList its at_).map (Value.int .i64)) ∧ Below w.heap.size w w' := by
  obtain ⟨i0, hi, hz0, hz1, hz2⟩ := info_parts info2
  have HF : Hid (∀ W g, W.heap.size = g → Below w.heap.size w W → Calls Try.prog 18 #[.slice a len cap] W fun e w' => e = .returned (.int .i64 (itemsFlt its)) ∧ Below g W w') := fun W g hg hb => by
    subst hg; exact implFault_any a len cap its W (h.below hb (Nat.le_refl _)) hl
  have hil := h.1
  by_cases hf : itemsFlt its = 0
  · have hpos : 0 < len := by
      rcases Nat.eq_zero_or_pos len with e | e
      · have : itemsFlt its = 2 := by unfold itemsFlt; rw [if_pos (.inl (by omega))]
        omega
      · exact e
    rw [hf] at HF
    by_cases hr : 0 ≤ at_ ∧ at_ ≤ (len : Int) - 1
    · have e1 : poCode its at_ = 0 := by unfold poCode; rw [if_pos hf, hil, if_pos hr]
      have e2 : poList its at_ = partsUp its at_ len := by unfold poList; rw [if_pos ⟨hf, by rw [hil]; exact hr⟩, hil]
      rw [e1, e2]
      have d1 : decide (at_ < 0) = false := decide_eq_false (by omega)
      have d2 : decide ((len : Int) ≤ at_) = false := decide_eq_false (by omega)
      obtain ⟨b, off, rfl, hb, hat⟩ := h.at hpos
      have HAT := hide hat
      have HPL := hide (partsUp_length its at_)
      have HL := hide hil
      clear hf e1 e2 h hat hil
      go_enter Try.func7, Try.ntmps7
      go_wp2_with fail
      refine ((unhide HF) _ (w.heap.size + 1) (by simp) (below_alloc w _)).mono ?_
      rintro e w1 ⟨rfl, b1⟩
      have HB1 := hide b1
      clear b1
      go_wp2_with fail
      go_loopw [6, 26] (fun s i wr => ∃ (k n : Nat) (a' : Option Addr) (cap' : Nat), k ≤ len ∧ i = .int .i64 k ∧ n = (partsUp its at_ k).length ∧ s = .slice a' n cap' ∧ wr.ownsRow (w.heap.size + 1) 2 1 (.slice a' n cap') n ((partsUp its at_ k).map (Value.int .i64)) ∧ Below (w.heap.size + 1) (w.alloc (.cells #[.int .i64 0, .slice none 0 0] 29)) wr) (fun _ i _ => len - (intOf i).toNat)
      case atStart => exact ⟨0, 0, none, 0, Nat.zero_le _, rfl, rfl, rfl, World.ownsRow_nil _ _ _ _, unhide HB1⟩
      case round =>
        obtain ⟨k, n, a', cap', hk, rfl, hn, rfl, hown, hbr⟩ := hrel
        clear HB1
        obtain ⟨r0, r1, g0, g1, hbw, hsz⟩ := behind_res hbr
        by_cases hlt : k < len
        · clear r0 r1 g0 g1
          obtain ⟨it, hit⟩ : ∃ it, its[k]? = some it := ⟨_, List.getElem?_eq_getElem (by rw [unhide HL]; exact hlt)⟩
          obtain ⟨sa, sl, sc, c0, c1, c2, _⟩ := ((unhide HAT) k it hit).below hbw (Nat.le_refl _)
          have i1 : (0 : Int) ≤ (k : Int) := by omega
          have i2 : (k : Int) < (len : Int) := by omega
          have i3 : decide ((k : Int) < (len : Int)) = true := decide_eq_true i2
          have hnk : n ≤ k := by rw [hn]; exact (unhide HPL) k
          have HBA := hide (fun o => hbr.alloc hsz o)
          have HOA := hide (fun o => hown.alloc o)
          by_cases he : it.p = at_
          · have hs := partsUp_yes hit he
            have HS := hide hs
            have HN := hide hn
            rw [he] at c1
            have hd : (at_ == at_) = true := by simp
            generalize it.l = il at c0
            clear hs hn hit hbw
            generalize partsUp its at_ k = L at hown HS HN HOA
            have hlt2 : ∀ g, (Value.slice a' n cap').ownBlock = some g → w.heap.size + 1 ≤ g := fun g e => (hown.lt g e).1
            have HLT := hide hlt2
            clear hown hbr hlt2
            go_wp2_with (at_builtin; refine wpList_append_own _ rfl _ _ 27 rfl (w.heap.size + 1) 2 i0 (.int .i64 0) 1 8 Try.underlying27 hi hz0 hz1 hz2 rfl (by decide) _ _ _ rfl (((unhide HOA) _).alloc _) ⟨wr.heap.size + 1, 0, none⟩ 1 1 [.int .i64 (k : Int)] rfl rfl ?c1 ?c2 ?c3 ?c4 ?c5 ?_)
            case c1 => intro j u hj; cases j with
              | zero => simp at hj; subst hj; simp [Addr.add]
              | succ j => simp at hj
            case c2 => intro u hu; simp at hu; subst hu; rfl
            case c3 => unfold maxLen; omega
            case c4 => omega
            case c5 => simp; omega
            intro v' w2 hown2 hgrow _
            obtain ⟨a2, cap2, hv⟩ := own_shape hown2
            have hb2 : Below (w.heap.size + 1) (w.alloc (.cells #[.int .i64 0, .slice none 0 0] 29)) w2 := (((unhide HBA) _).alloc (by simp; omega) _).grown hgrow (by simp; omega) (fun g e => (unhide HLT) g e)
            rw [hv] at hown2
            rw [hv]
            have HO := hide hown2
            have HB := hide hb2
            clear hown2 hb2 hgrow
            go_wp2_with fail
            go_roundw
            case rel => exact ⟨k + 1, n + 1, a2, cap2, by omega, by go_num, by rw [unhide HS, List.length_append, ← unhide HN]; rfl, rfl, by rw [unhide HS]; simpa using unhide HO, unhide HB⟩
            case measure => simp [intOf]; omega
          · have hs := partsUp_no hit he
            have HS := hide hs
            have HN := hide hn
            have hd : (it.p == at_) = false := by simp [he]
            generalize it.p = ip at c1 hd
            generalize it.l = il at c0
            clear hs hn hit hown hbr he hbw
            go_wp2_with fail
            go_roundw
            case rel => exact ⟨k + 1, n, a', cap', by omega, by go_num, by rw [unhide HS]; exact unhide HN, rfl, by rw [unhide HS]; exact (unhide HOA) _, (unhide HBA) _⟩
            case measure => simp [intOf]; omega
        · obtain rfl : k = len := by omega
          have HO := hide hown
          have HB := hide hbw
          have HN := hide hn
          have i3 : decide ((k : Int) < (k : Int)) = false := decide_eq_false (by omega)
          clear hown hbr hn hbw
          go_wp2_with fail
          refine bodyPost_ret (v := .agg #[.int .i64 0, .slice a' n cap']) (by simp [results, Try.results7, go_sem, r0, r1]) rfl ⟨a', cap', ?_, ?_, ?_⟩
          · rw [← unhide HN]
          · rw [← unhide HN]
            exact ownsRow_base (ownsRow_setCell_below (ownsRow_setCell_below (unhide HO) (by simp) _) (by simp) _) (by omega)
          · exact ((unhide HB).setCell (by simp) _).setCell (by simp) _
    · have e1 : poCode its at_ = 3 := by unfold poCode; rw [if_pos hf, hil, if_neg hr]
      have e2 : poList its at_ = [] := by unfold poList; rw [if_neg (fun hh => hr (by rw [hil] at hh; exact hh.2))]
      rw [e1, e2]
      clear hf e1 e2 h
      by_cases hneg : at_ < 0
      · have d1 : decide (at_ < 0) = true := decide_eq_true hneg
        go_enter Try.func7, Try.ntmps7
        go_wp2_with fail
        refine ((unhide HF) _ (w.heap.size + 1) (by simp) (below_alloc w _)).mono ?_
        rintro e w1 ⟨rfl, b1⟩
        obtain ⟨r0, r1, g0, g1, hbw, hsz⟩ := behind_res b1
        clear b1
        go_wp2_with fail
        exact bodyPost_ret (v := .agg #[.int .i64 3, .slice none 0 0]) (by simp [results, Try.results7, go_sem, r0, r1]) rfl ⟨none, 0, rfl, World.ownsRow_nil _ _ _ _, (hbw.setCell (by simp) _).setCell (by simp) _⟩
      · have d1 : decide (at_ < 0) = false := decide_eq_false hneg
        have d2 : decide ((len : Int) ≤ at_) = true := decide_eq_true (by omega)
        go_enter Try.func7, Try.ntmps7
        go_wp2_with fail
        refine ((unhide HF) _ (w.heap.size + 1) (by simp) (below_alloc w _)).mono ?_
        rintro e w1 ⟨rfl, b1⟩
        obtain ⟨r0, r1, g0, g1, hbw, hsz⟩ := behind_res b1
        clear b1
        go_wp2_with fail
        exact bodyPost_ret (v := .agg #[.int .i64 3, .slice none 0 0]) (by simp [results, Try.results7, go_sem, r0, r1]) rfl ⟨none, 0, rfl, World.ownsRow_nil _ _ _ _, (hbw.setCell (by simp) _).setCell (by simp) _⟩
  · have e1 : poCode its at_ = itemsFlt its := by unfold poCode; rw [if_neg hf]
    have e2 : poList its at_ = [] := by unfold poList; rw [if_neg (fun hh => hf hh.1)]
    rw [e1, e2]
    have hne : (itemsFlt its != 0) = true := by simp [hf]
    generalize itemsFlt its = c at HF hne
    clear e1 e2 h hf
    go_enter Try.func7, Try.ntmps7
    go_wp2_with fail
    refine ((unhide HF) _ (w.heap.size + 1) (by simp) (below_alloc w _)).mono ?_
    rintro e w1 ⟨rfl, b1⟩
    obtain ⟨r0, r1, g0, g1, hbw, hsz⟩ := behind_res b1
    clear b1
    go_wp2_with fail
    exact bodyPost_ret (v := .agg #[.int .i64 c, .slice none 0 0]) (by simp [results, Try.results7, go_sem, r0, r1]) rfl ⟨none, 0, rfl, World.ownsRow_nil _ _ _ _, (hbw.setCell (by simp) _).setCell (by simp) _⟩

end Go.Proofs.Ytpcokoejmodmaaa
