/- What is proved here: what the model's EncodeItems answers: the code and the bytes, in new memory. -/
import Derived.Test.YtkibdgmgjnoblaaEncT
import Derived.Test.YtkibdgmgjnoblaaBehR
namespace Go.Proofs.Ytkibdgmgjnoblaa
open Go.RowKit
set_option linter.unusedVariables false

set_option maxHeartbeats 2000000 in
theorem specEnc_any (a : Option Addr) (len cap : Nat) (its : List It) (w : World) (h : ItRowN w a len its) (hl : len ≤ 1048576) :
    Calls Try.prog 17 #[.slice a len cap] w fun e w' => ∃ a' cap', e = .returned (.agg #[.int .i64 (enCode its), .slice a' (enBytes its).length cap']) ∧
      w'.ownsRow w.heap.size 5 1 (.slice a' (enBytes its).length cap') (enBytes its).length ((enBytes its).map (Value.int .u8)) ∧ Below w.heap.size w w' := by
  have HF : Hid (∀ W, Below w.heap.size w W → Calls Try.prog 29 #[.slice a len cap] W fun e w' => e = .returned (.int .i64 (itemsFlt its)) ∧ w' = W) := fun W hb => l3Fault_any a len cap its W (h.1.below hb (Nat.le_refl _)) hl
  by_cases hf : itemsFlt its = 0
  · have N := noFault_of hf
    rw [hf] at HF
    obtain ⟨it, hit⟩ : ∃ it, its[0]? = some it := ⟨_, List.getElem?_eq_getElem N.some⟩
    have HE : Hid (∀ (W : World) (g : Nat), W.heap.size = g → Below w.heap.size w W → Calls Try.prog 36 #[.slice a len cap, .int .i64 0] W fun e w' => ∃ a' cap', e = .returned (.slice a' (enc hdS its 0).length cap') ∧
        w'.ownsRow g 5 1 (.slice a' (enc hdS its 0).length cap') (enc hdS its 0).length ((enc hdS its 0).map (Value.int .u8)) ∧ Below g W w') := fun W g hg hb => by
      subst hg; exact l3Encode_any a len cap its N h.1.1 len 0 it (by omega) hit W (h.below hb (Nat.le_refl _))
    have hle := enc_le hdS hdS_length N hit
    by_cases h12 : 1200 < (enc hdS its 0).length
    · have e1 : enCode its = 2 := by unfold enCode; rw [if_pos hf, if_pos h12]
      have e2 : enBytes its = [] := by unfold enBytes; rw [if_neg (by omega)]
      rw [e1, e2]
      generalize enc hdS its 0 = L at HE hle h12
      have d1 : decide ((1200 : Int) < (L.length : Int)) = true := decide_eq_true (by omega)
      clear e1 e2 h hf hit N
      go_enter Try.func17, Try.ntmps17
      go_wp2_with fail
      refine ((unhide HF) _ (below_alloc w _)).mono ?_
      rintro e w' ⟨rfl, rfl⟩
      go_wp2_with fail
      refine ((unhide HE) _ (w.heap.size + 1) (by simp) (below_alloc w _)).mono ?_
      rintro e w2 ⟨a2, c2, rfl, o2, b2⟩
      obtain ⟨r0, r1, g0, g1, hbw, hsz⟩ := behind_res b2
      clear o2 b2
      go_wp2_with fail
      exact bodyPost_ret (v := .agg #[.int .i64 2, .slice none 0 0]) (by simp [results, Try.results17, go_sem, r0, r1]) rfl ⟨none, 0, rfl, World.ownsRow_nil _ _ _ _, (hbw.setCell (by simp) _).setCell (by simp) _⟩
    · have e1 : enCode its = 0 := by unfold enCode; rw [if_pos hf, if_neg h12]
      have e2 : enBytes its = enc hdS its 0 := by unfold enBytes; rw [if_pos ⟨hf, by omega⟩]
      rw [e1, e2]
      generalize enc hdS its 0 = L at HE hle h12
      have d1 : decide ((1200 : Int) < (L.length : Int)) = false := decide_eq_false (by omega)
      clear e1 e2 h hf hit N
      go_enter Try.func17, Try.ntmps17
      go_wp2_with fail
      refine ((unhide HF) _ (below_alloc w _)).mono ?_
      rintro e w' ⟨rfl, rfl⟩
      go_wp2_with fail
      refine ((unhide HE) _ (w.heap.size + 1) (by simp) (below_alloc w _)).mono ?_
      rintro e w2 ⟨a2, c2, rfl, o2, b2⟩
      obtain ⟨r0, r1, g0, g1, hbw, hsz⟩ := behind_res b2
      have HO := hide o2
      clear o2 b2
      go_wp2_with fail
      refine bodyPost_ret (v := .agg #[.int .i64 0, .slice a2 L.length c2]) (by simp [results, Try.results17, go_sem, r0, r1]) rfl ⟨a2, c2, rfl, ?_, (hbw.setCell (by simp) _).setCell (by simp) _⟩
      exact ownsRow_base (ownsRow_setCell_below (ownsRow_setCell_below (unhide HO) (by simp) _) (by simp) _) (by omega)
  · have e1 : enCode its = itemsFlt its := by unfold enCode; rw [if_neg hf]
    have e2 : enBytes its = [] := by unfold enBytes; rw [if_neg (fun hh => hf hh.1)]
    rw [e1, e2]
    have hne : (itemsFlt its != 0) = true := by simp [hf]
    generalize itemsFlt its = c at HF hne
    clear e1 e2 h hf
    go_enter Try.func17, Try.ntmps17
    go_wp2_with fail
    refine ((unhide HF) _ (below_alloc w _)).mono ?_
    rintro e w' ⟨rfl, rfl⟩
    go_wp2_with fail
    exact bodyPost_ret (v := .agg #[.int .i64 c, .slice none 0 0]) (by simp [results, Try.results17, go_sem]) rfl ⟨none, 0, rfl, World.ownsRow_nil _ _ _ _, below_alloc w _⟩

end Go.Proofs.Ytkibdgmgjnoblaa
