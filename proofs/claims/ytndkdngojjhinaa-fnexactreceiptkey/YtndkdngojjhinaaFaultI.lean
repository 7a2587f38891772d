/- What is proved here: what the program's itemFault and ItemsFault answer: the fault of an item whose forerunners have none, and the first fault of items. -/
import Derived.Test.YtndkdngojjhinaaWayI
import Derived.WalkKit
import Derived.WalkLawsBesides
import Derived.WalkSmall
import Derived.KernelRfl
import Derived.WalkSpells
namespace Go.Proofs.Ytndkdngojjhinaa
open Go.RowKit
set_option linter.unusedVariables false
set_option maxRecDepth 100000

theorem below_set3 (w : World) (x y z u v t : Value) (T : TypeId) : Below w.heap.size w (((((w.alloc (.cells #[x, y, z] T)).setCell ⟨w.heap.size, 0, none⟩ u).setCell ⟨w.heap.size, 1, none⟩ v).setCell ⟨w.heap.size, 2, none⟩ t)) :=
  (((below_alloc w _).setCell (Nat.le_refl _) _).setCell (Nat.le_refl _) _).setCell (Nat.le_refl _) _

set_option maxHeartbeats 4000000 in
theorem itemFault_any (a : Option Addr) (len cap : Nat) (its : List It) (k : Nat) (it : It) (w : World) (h : ItRow w a len its) (hl : len ≤ 1048576) (hit : its[k]? = some it) (hup : UpOk its k) :
    Calls Try.prog 36 #[.slice a len cap, .int .i64 (k : Int)] w fun e w' => e = .returned (.int .i64 (fltAt its k it)) ∧ Below w.heap.size w w' := by
  have hkl : k < its.length := (List.getElem?_eq_some_iff.1 hit).1
  have hkn : k < len := by rw [← h.1]; exact hkl
  have HW1 := hide (fun (W : World) (hb : Below w.heap.size w W) => h.below hb (Nat.le_refl _))
  obtain ⟨b, off, rfl, hb, hat⟩ := h.at (by omega)
  obtain ⟨sa, sl, sc, c0, c1, c2, hbr⟩ := hat k it hit
  have hsl : it.z.length = sl := hbr.1
  have HAT := hide hat
  have hio := (h.2.1 it (List.mem_of_getElem? hit)).2.2
  rw [hsl] at hio
  unfold maxLen at hio
  have i1 : (0 : Int) ≤ (k : Int) := by omega
  have i2 : (k : Int) < (len : Int) := by omega
  have hz0 : (0 : Int) ≤ (sl : Int) := by omega
  have hlen := h.1
  clear hat hbr h
  obtain ⟨il, ip, iz⟩ := it
  simp only at c0 c1 hsl
  by_cases t1 : il = true ∧ 0 < sl
  · obtain ⟨rfl, hpos⟩ := t1
    have HE : Hid (fltAt its k ⟨true, ip, iz⟩ = 1) := by show _ = _; unfold fltAt; rw [if_pos ⟨rfl, by simpa [hsl] using hpos⟩]
    have hd : decide ((0 : Int) < (sl : Int)) = true := decide_eq_true (by omega)
    go_enter Try.func36, Try.ntmps36
    go_wp2_with fail
    go_ret
    refine ⟨ret_int (unhide HE).symm, ?_⟩
    exact below_alloc w _
  · have n1 : ¬ (il = true ∧ 0 < iz.length) := by rw [hsl]; exact t1
    have t1' : il = false ∨ (il = true ∧ sl = 0) := by
      cases il
      · exact .inl rfl
      · refine .inr ⟨rfl, ?_⟩
        have : ¬ 0 < sl := fun hh => t1 ⟨rfl, hh⟩
        omega
    clear t1
    by_cases t2 : 300 < sl
    · have HE : Hid (fltAt its k ⟨il, ip, iz⟩ = 2) := by show _ = _; unfold fltAt; rw [if_neg n1, if_pos (by simpa [hsl] using t2)]
      obtain rfl : il = false := by rcases t1' with e | ⟨_, e⟩; exact e; omega
      have hd : decide ((300 : Int) < (sl : Int)) = true := decide_eq_true (by omega)
      clear n1 t1'
      go_enter Try.func36, Try.ntmps36
      go_wp2_with fail
      go_ret
      exact ⟨ret_int (unhide HE).symm, below_alloc w _⟩
    · have n2 : ¬ 300 < iz.length := by rw [hsl]; exact t2
      have d2 : decide ((300 : Int) < (sl : Int)) = false := decide_eq_false (by omega)
      by_cases k0 : k = 0
      · have dk : (((k : Nat) : Int) == 0) = true := by simp [k0]
        by_cases hp : ip = -1
        · subst hp
          have HE : Hid (fltAt its k ⟨il, -1, iz⟩ = 0) := by show _ = _; unfold fltAt; rw [if_neg n1, if_neg n2, if_pos k0, if_pos rfl]
          clear n1 n2 t2 k0
          rcases t1' with rfl | ⟨rfl, rfl⟩
          all_goals
            go_enter Try.func36, Try.ntmps36
            go_wp2_with fail
            go_ret
            exact ⟨ret_int (unhide HE).symm, below_alloc w _⟩
        · have HE : Hid (fltAt its k ⟨il, ip, iz⟩ = 3) := by show _ = _; unfold fltAt; rw [if_neg n1, if_neg n2, if_pos k0, if_neg hp]
          have hd : (ip != -1) = true := by simp [hp]
          clear n1 n2 t2 k0
          rcases t1' with rfl | ⟨rfl, rfl⟩
          all_goals
            go_enter Try.func36, Try.ntmps36
            go_wp2_with fail
            go_ret
            exact ⟨ret_int (unhide HE).symm, below_alloc w _⟩
      · have dk : (((k : Nat) : Int) == 0) = false := by simp; omega
        by_cases t3 : ip < 0 ∨ (k : Int) ≤ ip
        · have HE : Hid (fltAt its k ⟨il, ip, iz⟩ = 3) := by show _ = _; unfold fltAt; rw [if_neg n1, if_neg n2, if_neg k0, if_pos t3]
          clear n1 n2 t2
          by_cases t3a : ip < 0
          · have d3 : decide (ip < 0) = true := decide_eq_true t3a
            rcases t1' with rfl | ⟨rfl, rfl⟩
            all_goals
              go_enter Try.func36, Try.ntmps36
              go_wp2_with fail
              go_ret
              exact ⟨ret_int (unhide HE).symm, below_alloc w _⟩
          · have d3 : decide (ip < 0) = false := decide_eq_false t3a
            have d4 : decide ((k : Int) ≤ ip) = true := decide_eq_true (by omega)
            rcases t1' with rfl | ⟨rfl, rfl⟩
            all_goals
              go_enter Try.func36, Try.ntmps36
              go_wp2_with fail
              go_ret
              exact ⟨ret_int (unhide HE).symm, below_alloc w _⟩
        · have d3 : decide (ip < 0) = false := decide_eq_false (by omega)
          have d4 : decide ((k : Int) ≤ ip) = false := decide_eq_false (by omega)
          obtain ⟨q, rfl⟩ : ∃ q : Nat, ip = (q : Int) := ⟨ip.toNat, by omega⟩
          have hqk : q < k := by omega
          obtain ⟨jt, hjt⟩ : ∃ jt, its[q]? = some jt := ⟨_, List.getElem?_eq_getElem (by omega)⟩
          obtain ⟨ja, jl, jc, g0, g1, g2, _⟩ := (unhide HAT) q jt hjt
          have hla : lAt its q = jt.l := by unfold lAt; rw [hjt]
          obtain ⟨xs1, hx1⟩ := hup.way (by omega) (k - 1) (by omega)
          have e1 : ((k - 1 : Nat) : Int) = (k : Int) - 1 := by omega
          rw [e1] at hx1
          have hu1 := hx1.up (by omega)
          have hx2 : IsWay its (k : Int) (k :: upL its (q : Int)) := by
            obtain ⟨xq, hxq⟩ := hup.way (by omega) q hqk
            rw [hxq.up (by omega)]
            exact ⟨rfl, _, hit, by simp, by show (q : Int) < k; omega, hxq⟩
          have hu2 := hx2.up (by omega)
          have j1 : (0 : Int) ≤ (q : Int) := by omega
          have j2 : (q : Int) < (len : Int) := by omega
          have hxl : (k :: upL its (q : Int)).length ≤ 2097152 := by
            have : (upL its (q : Int)).length ≤ its.length + 1 := wayF_len _ _ _
            simp; omega
          generalize k :: upL its (q : Int) = xs2 at hx2 hu2 hxl
          have HF : Hid (fltAt its k ⟨il, (q : Int), iz⟩ = if jt.l = true ∧ q ∈ xs1 then (if 5 < xs2.length then 2 else 0) else 1) := by
            show _ = _
            unfold fltAt
            rw [if_neg n1, if_neg n2, if_neg k0, if_neg t3, Int.toNat_natCast, hla, hu1, hu2]
          have HX1 := hide hx1
          have HX2 := hide hx2
          have HUP := hide (fun (W : World) (hb : Below w.heap.size w W) => isUpFrom_any (some ⟨b, off, none⟩) len cap its ((k : Int) - 1) q xs1 W ((unhide HW1) W hb) hl hx1)
          have HDP := hide (fun (W : World) (hb : Below w.heap.size w W) => deepOf_any (some ⟨b, off, none⟩) len cap its (k : Int) xs2 W ((unhide HW1) W hb) hl hx2 hxl)
          generalize jt.l = jb at g0 HF
          clear n1 n2 t2 t3 hu1 hu2 hx1 hx2 hla e1 g1 g2 HX1 HX2 hjt
          cases jb
          · have HE : Hid (fltAt its k ⟨il, (q : Int), iz⟩ = 1) := by show _ = _; rw [unhide HF]; simp
            clear HF
            rcases t1' with rfl | ⟨rfl, rfl⟩
            all_goals
              go_enter Try.func36, Try.ntmps36
              go_wp2_with fail
              go_ret
              exact ⟨ret_int (unhide HE).symm, below_alloc w _⟩
          · by_cases hm : q ∈ xs1
            · have HM := hide hm
              have hdm : decide (q ∈ xs1) = true := decide_eq_true hm
              rw [hdm] at HUP
              by_cases h5 : 5 < xs2.length
              · have HE : Hid (fltAt its k ⟨il, (q : Int), iz⟩ = 2) := by show _ = _; rw [unhide HF]; simp [hm, h5]
                have d5 : decide ((5 : Int) < ((xs2.length : Nat) : Int)) = true := decide_eq_true (by omega)
                clear HF hdm hm
                rcases t1' with rfl | ⟨rfl, rfl⟩
                all_goals
                  go_enter Try.func36, Try.ntmps36
                  go_wp2_with fail
                  refine ((unhide HUP) _ (below_alloc w _)).mono ?_
                  rintro e w1 ⟨rfl, b1⟩
                  have B1 := (below_alloc w _).trans (b1.mono (below_alloc w _).size)
                  go_wp2_with fail
                  refine ((unhide HDP) _ B1).mono ?_
                  rintro e w2 ⟨rfl, b2⟩
                  have B2 := B1.trans (b2.mono B1.size)
                  go_wp2_with fail
                  go_ret
                  exact ⟨ret_int (unhide HE).symm, B2⟩
              · have HE : Hid (fltAt its k ⟨il, (q : Int), iz⟩ = 0) := by show _ = _; rw [unhide HF]; simp [hm, h5]
                have d5 : decide ((5 : Int) < ((xs2.length : Nat) : Int)) = false := decide_eq_false (by omega)
                clear HF hdm hm
                rcases t1' with rfl | ⟨rfl, rfl⟩
                all_goals
                  go_enter Try.func36, Try.ntmps36
                  go_wp2_with fail
                  refine ((unhide HUP) _ (below_alloc w _)).mono ?_
                  rintro e w1 ⟨rfl, b1⟩
                  have B1 := (below_alloc w _).trans (b1.mono (below_alloc w _).size)
                  go_wp2_with fail
                  refine ((unhide HDP) _ B1).mono ?_
                  rintro e w2 ⟨rfl, b2⟩
                  have B2 := B1.trans (b2.mono B1.size)
                  go_wp2_with fail
                  go_ret
                  exact ⟨ret_int (unhide HE).symm, B2⟩
            · have hdm : decide (q ∈ xs1) = false := decide_eq_false hm
              rw [hdm] at HUP
              have HE : Hid (fltAt its k ⟨il, (q : Int), iz⟩ = 1) := by show _ = _; rw [unhide HF]; simp [hm]
              clear HF hdm hm
              rcases t1' with rfl | ⟨rfl, rfl⟩
              all_goals
                go_enter Try.func36, Try.ntmps36
                go_wp2_with fail
                refine ((unhide HUP) _ (below_alloc w _)).mono ?_
                rintro e w1 ⟨rfl, b1⟩
                have B1 := (below_alloc w _).trans (b1.mono (below_alloc w _).size)
                go_wp2_with fail
                go_ret
                exact ⟨ret_int (unhide HE).symm, B1⟩

end Go.Proofs.Ytndkdngojjhinaa
