/- What is proved here: what the model's l3Fault answers: the first fault of items. -/
import Derived.Test.YtpcokoejmodmaaaFaultS
namespace Go.Proofs.Ytpcokoejmodmaaa
open Go.RowKit
set_option linter.unusedVariables false

set_option maxHeartbeats 8000000 in
theorem l3Fault_any (a : Option Addr) (len cap : Nat) (its : List It) (w : World) (h : ItRow w a len its) (hl : len ≤ 1048576) :
    Calls Try.prog 19 #[.slice a len cap] w fun e w' => e = .returned (.int .i64 (itemsFlt its)) ∧ w' = w := by
  have hil := h.1
  by_cases h1 : len < 1
  · have HE : Hid (itemsFlt its = 2) := by show _ = _; unfold itemsFlt; rw [if_pos (.inl (by rw [hil]; exact h1))]
    have hd : decide ((len : Int) < 1) = true := decide_eq_true (by omega)
    clear h hil
    go_enter Try.func19, Try.ntmps19
    go_wp2_with fail
    go_ret
    exact ⟨ret_int (unhide HE).symm, rfl⟩
  · have d1 : decide ((len : Int) < 1) = false := decide_eq_false (by omega)
    by_cases h2 : 200 < len
    · have HE : Hid (itemsFlt its = 2) := by show _ = _; unfold itemsFlt; rw [if_pos (.inr (by rw [hil]; exact h2))]
      have hd : decide ((200 : Int) < (len : Int)) = true := decide_eq_true (by omega)
      clear h hil
      go_enter Try.func19, Try.ntmps19
      go_wp2_with fail
      go_ret
      exact ⟨ret_int (unhide HE).symm, rfl⟩
    · have d2 : decide ((200 : Int) < (len : Int)) = false := decide_eq_false (by omega)
      have HE : Hid (itemsFlt its = fltFrom its 0 its) := by show _ = _; unfold itemsFlt; rw [if_neg (by omega)]
      have HL := hide hil
      have hlen := hil
      obtain ⟨b, off, rfl, hb, hat⟩ := h.at (by omega)
      have HH := hide h
      have HAT := hide hat
      clear h hil hat hlen
      go_enter Try.func19, Try.ntmps19
      go_wp2_with fail
      go_loop [3] (fun i => ∃ k : Nat, k ≤ len ∧ i = .int .i64 k ∧ UpOk its k ∧ fltFrom its 0 its = fltFrom its k (its.drop k)) (fun i => len - (intOf i).toNat)
      case atStart => exact ⟨0, Nat.zero_le _, rfl, fun j it hj => absurd hj (Nat.not_lt_zero _), by simp⟩
      case round =>
        obtain ⟨k, hk, rfl, hup, hpre⟩ := hrel
        by_cases hlt : k < len
        · obtain ⟨it, hit⟩ : ∃ it, its[k]? = some it := ⟨_, List.getElem?_eq_getElem (by rw [unhide HL]; exact hlt)⟩
          have hst := fltFrom_step its k it hit
          rw [← hpre] at hst
          have HN : Hid (fltAt its k it = 0 → UpOk its (k + 1)) := fun e => upOk_step hup hit (fltAt_up e).1 (fltAt_up e).2
          obtain ⟨sa, sl, sc, c0, c1, c2, hbr⟩ := (unhide HAT) k it hit
          have hsl : it.z.length = sl := hbr.1
          have hio := ((unhide HH).2.1 it (List.mem_of_getElem? hit)).2.2
          rw [hsl] at hio
          unfold maxLen at hio
          have i1 : (0 : Int) ≤ (k : Int) := by omega
          have i2 : (k : Int) < (len : Int) := by omega
          have hz0 : (0 : Int) ≤ (sl : Int) := by omega
          have HS := hide hst
          clear hbr hst hpre
          obtain ⟨il, ip, iz⟩ := it
          simp only at c0 c1 hsl
          by_cases t1 : il = true ∧ 0 < sl
          · obtain ⟨rfl, hpos⟩ := t1
            have e : fltAt its k ⟨true, ip, iz⟩ = 1 := by unfold fltAt; rw [if_pos ⟨rfl, by simpa [hsl] using hpos⟩]
            rw [e, if_neg (by decide)] at HS
            have hd : decide ((0 : Int) < (sl : Int)) = true := decide_eq_true (by omega)
            clear e HN hup hit
            go_wp2_with fail
            go_ret
            exact ⟨ret_int (by rw [unhide HE, unhide HS]), rfl⟩
          · have n1 : ¬ (il = true ∧ 0 < iz.length) := by rw [hsl]; exact t1
            have t1' : il = false ∨ (il = true ∧ sl = 0) := by
              cases il
              · exact .inl rfl
              · refine .inr ⟨rfl, ?_⟩
                have : ¬ 0 < sl := fun hh => t1 ⟨rfl, hh⟩
                omega
            clear t1
            by_cases t2 : 300 < sl
            · have e : fltAt its k ⟨il, ip, iz⟩ = 2 := by unfold fltAt; rw [if_neg n1, if_pos (by simpa [hsl] using t2)]
              rw [e, if_neg (by decide)] at HS
              obtain rfl : il = false := by rcases t1' with e | ⟨_, e⟩; exact e; omega
              have hd : decide ((300 : Int) < (sl : Int)) = true := decide_eq_true (by omega)
              clear e n1 t1' HN hup hit
              go_wp2_with fail
              go_ret
              exact ⟨ret_int (by rw [unhide HE, unhide HS]), rfl⟩
            · have n2 : ¬ 300 < iz.length := by rw [hsl]; exact t2
              have dd2 : decide ((300 : Int) < (sl : Int)) = false := decide_eq_false (by omega)
              by_cases k0 : k = 0
              · have dk : (((k : Nat) : Int) == 0) = true := by simp [k0]
                have dk2 : decide ((0 : Int) < (k : Int)) = false := decide_eq_false (by omega)
                have dk3 : decide (0 < k) = false := decide_eq_false (by omega)
                by_cases hp : ip = -1
                · subst hp
                  have e : fltAt its k ⟨il, -1, iz⟩ = 0 := by unfold fltAt; rw [if_neg n1, if_neg n2, if_pos k0, if_pos rfl]
                  have HN1 := hide ((unhide HN) e)
                  rw [e, if_pos rfl] at HS
                  have hw : IsWay its (k : Int) [k] := ⟨rfl, _, hit, by simp, by simp; omega, rfl⟩
                  have HD := hide (l3Deep_any (some ⟨b, off, none⟩) len cap its k [k] w (unhide HH) hl hlt hw)
                  clear n1 n2 t2 k0 e HN hup hit hw
                  rcases t1' with rfl | ⟨rfl, rfl⟩
                  all_goals
                    go_wp2_with fail
                    refine (unhide HD).mono ?_
                    rintro e w' ⟨⟨d, rfl, hd⟩, rfl⟩
                    have hd5 : decide ((5 : Int) < d) = false := decide_eq_false (fun hh => by have := hd.1 hh; simp at this)
                    clear hd
                    go_wp2_with fail
                    go_round
                    case rel => exact ⟨k + 1, by omega, by go_num, unhide HN1, unhide HS⟩
                    case measure => simp [intOf]; omega
                · have e : fltAt its k ⟨il, ip, iz⟩ = 3 := by unfold fltAt; rw [if_neg n1, if_neg n2, if_pos k0, if_neg hp]
                  rw [e, if_neg (by decide)] at HS
                  have hd : (ip != -1) = true := by simp [hp]
                  clear n1 n2 t2 k0 e HN hup hit
                  rcases t1' with rfl | ⟨rfl, rfl⟩
                  all_goals
                    go_wp2_with fail
                    go_ret
                    exact ⟨ret_int (by rw [unhide HE, unhide HS]), rfl⟩
              · have dk : (((k : Nat) : Int) == 0) = false := by simp; omega
                have dk2 : decide ((0 : Int) < (k : Int)) = true := decide_eq_true (by omega)
                by_cases t3 : ip < 0 ∨ (k : Int) ≤ ip
                · have e : fltAt its k ⟨il, ip, iz⟩ = 3 := by unfold fltAt; rw [if_neg n1, if_neg n2, if_neg k0, if_pos t3]
                  rw [e, if_neg (by decide)] at HS
                  have HI := hide (in_no ip 0 ((k : Int) - 1) w (by omega))
                  clear n1 n2 t2 e HN hup hit
                  rcases t1' with rfl | ⟨rfl, rfl⟩
                  all_goals
                    go_wp2_with fail
                    refine (unhide HI).mono ?_
                    rintro e w' ⟨rfl, rfl⟩
                    go_wp2_with fail
                    go_ret
                    exact ⟨ret_int (by rw [unhide HE, unhide HS]), rfl⟩
                · have HI := hide (in_yes ip 0 ((k : Int) - 1) w (by omega) (by omega))
                  obtain ⟨q, rfl⟩ : ∃ q : Nat, ip = (q : Int) := ⟨ip.toNat, by omega⟩
                  have hqk : q < k := by omega
                  have hkl : k < its.length := (List.getElem?_eq_some_iff.1 hit).1
                  obtain ⟨jt, hjt⟩ : ∃ jt, its[q]? = some jt := ⟨_, List.getElem?_eq_getElem (by omega)⟩
                  have hla : lAt its q = jt.l := by unfold lAt; rw [hjt]
                  obtain ⟨xs1, hx1⟩ := hup.way (by omega) (k - 1) (by omega)
                  have e1 : ((k - 1 : Nat) : Int) = (k : Int) - 1 := by omega
                  rw [e1] at hx1
                  have hu1 := hx1.up (by omega)
                  have hx2 : IsWay its (k : Int) (k :: upL its (q : Int)) := by
                    obtain ⟨xq, hxq⟩ := hup.way (by omega) q hqk
                    rw [hxq.up (by omega)]
                    exact ⟨rfl, _, hit, by simp, by show (q : Int) < k; omega, hxq⟩
                  have hu2 := hx2.up (by omega)
                  generalize k :: upL its (q : Int) = xs2 at hx2 hu2
                  have HF : Hid (fltAt its k ⟨il, (q : Int), iz⟩ = if jt.l = true ∧ q ∈ xs1 then (if 5 < xs2.length then 2 else 0) else 1) := by
                    show _ = _
                    unfold fltAt
                    rw [if_neg n1, if_neg n2, if_neg k0, if_neg t3, Int.toNat_natCast, hla, hu1, hu2]
                  have HLN := hide (l3Line_any (some ⟨b, off, none⟩) len cap its k q _ jt xs1 w (unhide HH) hl (by omega) hit rfl hjt hx1)
                  have HD := hide (l3Deep_any (some ⟨b, off, none⟩) len cap its k xs2 w (unhide HH) hl hlt hx2)
                  generalize jt.l = jb at HF HLN
                  clear n1 n2 t2 t3 hu1 hu2 hx1 hx2 hla e1 hjt hup hit
                  by_cases hm : jb = true ∧ q ∈ xs1
                  · have e2 : (jb && decide (q ∈ xs1)) = true := by simp [hm.1, hm.2]
                    rw [e2] at HLN
                    rw [if_pos hm] at HF
                    clear e2 hm
                    by_cases h5 : 5 < xs2.length
                    · have e : fltAt its k ⟨il, (q : Int), iz⟩ = 2 := by rw [unhide HF, if_pos h5]
                      rw [e, if_neg (by decide)] at HS
                      clear e HF HN
                      rcases t1' with rfl | ⟨rfl, rfl⟩
                      all_goals
                        go_wp2_with fail
                        refine (unhide HI).mono ?_
                        rintro e w' ⟨rfl, rfl⟩
                        go_wp2_with fail
                        refine (unhide HLN).mono ?_
                        rintro e w' ⟨rfl, rfl⟩
                        go_wp2_with fail
                        refine (unhide HD).mono ?_
                        rintro e w' ⟨⟨d, rfl, hd⟩, rfl⟩
                        have hd5 : decide ((5 : Int) < d) = true := decide_eq_true (hd.2 h5)
                        clear hd
                        go_wp2_with fail
                        go_ret
                        exact ⟨ret_int (by rw [unhide HE, unhide HS]), rfl⟩
                    · have e : fltAt its k ⟨il, (q : Int), iz⟩ = 0 := by rw [unhide HF, if_neg h5]
                      have HN1 := hide ((unhide HN) e)
                      rw [e, if_pos rfl] at HS
                      clear e HF HN
                      rcases t1' with rfl | ⟨rfl, rfl⟩
                      all_goals
                        go_wp2_with fail
                        refine (unhide HI).mono ?_
                        rintro e w' ⟨rfl, rfl⟩
                        go_wp2_with fail
                        refine (unhide HLN).mono ?_
                        rintro e w' ⟨rfl, rfl⟩
                        go_wp2_with fail
                        refine (unhide HD).mono ?_
                        rintro e w' ⟨⟨d, rfl, hd⟩, rfl⟩
                        have hd5 : decide ((5 : Int) < d) = false := decide_eq_false (fun hh => h5 (hd.1 hh))
                        clear hd
                        go_wp2_with fail
                        go_round
                        case rel => exact ⟨k + 1, by omega, by go_num, unhide HN1, unhide HS⟩
                        case measure => simp [intOf]; omega
                  · have e2 : (jb && decide (q ∈ xs1)) = false := by
                      cases jb
                      · rfl
                      · simp; exact fun hh => hm ⟨rfl, hh⟩
                    rw [e2] at HLN
                    have e : fltAt its k ⟨il, (q : Int), iz⟩ = 1 := by rw [unhide HF, if_neg hm]
                    rw [e, if_neg (by decide)] at HS
                    clear e e2 HF HN hm
                    rcases t1' with rfl | ⟨rfl, rfl⟩
                    all_goals
                      go_wp2_with fail
                      refine (unhide HI).mono ?_
                      rintro e w' ⟨rfl, rfl⟩
                      go_wp2_with fail
                      refine (unhide HLN).mono ?_
                      rintro e w' ⟨rfl, rfl⟩
                      go_wp2_with fail
                      go_ret
                      exact ⟨ret_int (by rw [unhide HE, unhide HS]), rfl⟩
        · obtain rfl : k = len := by omega
          have e := fltFrom_end its k (by rw [unhide HL]; exact Nat.le_refl _)
          rw [e] at hpre
          have HP := hide hpre
          clear e hpre hup
          go_wp2_with fail
          go_ret
          exact ⟨ret_int (by rw [unhide HE, unhide HP]), rfl⟩

end Go.Proofs.Ytpcokoejmodmaaa
