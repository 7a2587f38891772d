/- What is proved here: what the model's l5Hash and l5SealHash answer for a header without a fault: the hash of its bytes in new memory. -/
import Derived.Test.YtioifgbnninmjaaGreatDoorJ13
import Derived.Test.YtioifgbnninmjaaGreatDoorJ20
import Derived.Test.YtioifgbnninmjaaGreatDoorJ24
import Derived.Test.YtioifgbnninmjaaGreatDoorJ7
import Derived.Test.YtioifgbnninmjaaGreatDoorJ19
import Derived.Test.YtioifgbnninmjaaGreatDoorJ15
import Derived.Test.YtioifgbnninmjaaGreatDoorJ1
import Derived.Test.YtioifgbnninmjaaGreatDoorJ16
import Derived.Test.YtioifgbnninmjaaGreatDoorJ5
namespace Go.Proofs.YtioifgbnninmjaaGreatDoor
open Go.RowKit
set_option linter.unusedVariables false
set_option maxRecDepth 100000

set_option maxRecDepth 100000 in
set_option maxHeartbeats 8000000 in
theorem l5Hash_any (x : HS) (h : Hd) (w : World) (o : HOk w x h) (nn : HNil w x) (hf : hdFlt h = 0) :
    Calls Tryz.prog 46 #[.agg (hvals x h)] w fun e w' => ∃ d c, e = .returned (.slice (some ⟨d, 0, none⟩) 32 c) ∧
      w'.ownsRow w.heap.size 5 1 (.slice (some ⟨d, 0, none⟩) 32 c) 32 ((kcBytes (packL (noK h))).map (Value.int .u8)) ∧ Below w.heap.size w w' := by
  have hg := hdFlt_noK hf
  have kb := SBlk.new w (hvals x h) 45
  have bb := below_alloc w (.cells (hvals x h) 45)
  obtain ⟨W0, eb⟩ : ∃ W0, w.alloc (.cells (hvals x h) 45) = W0 := ⟨_, rfl⟩
  rw [eb] at kb bb
  have kb3 : SBlk (W0.setCell ⟨w.heap.size, 10, none⟩ (.slice none 0 0)) w.heap.size (hvals (xNoK x) (noK h)).toList 45 := kb.set 10 _
  have b3 := bb.setCell (p := ⟨w.heap.size, 10, none⟩) (Nat.le_refl _) (.slice none 0 0)
  have fz : W0.frozen? ⟨w.heap.size, 10, none⟩ = false := kb.free 10
  have cz := kb.cell 10
  simp only [hvals, List.getElem?_cons_zero, List.getElem?_cons_succ] at cz
  obtain ⟨W3, e3⟩ : ∃ W3, W0.setCell ⟨w.heap.size, 10, none⟩ (.slice none 0 0) = W3 := ⟨_, rfl⟩
  rw [e3] at kb3 b3
  have ok := (o.below b3 (Nat.le_refl _)).noK
  have D1 := hide (l5Pack_any w.heap.size (xNoK x) (noK h) _ W3 kb3 ok (nn.below b3 (Nat.le_refl _)).noK (good_of hg))
  have HRG := hide (packL_rng hg ok)
  have hl := packL_le hg
  have hpos := packL_pos (noK h)
  have HKC : Hid (∀ (W' : World) (g c : Nat), BRow W' (some ⟨g, 0, none⟩) (packL (noK h)).length (packL (noK h)) → Calls Tryz.prog 85 #[.slice (some ⟨g, 0, none⟩) (packL (noK h)).length c] W' fun e w' => ∃ d c', e = .returned (.slice (some ⟨d, 0, none⟩) 32 c') ∧ w'.ownsRow W'.heap.size 5 1 (.slice (some ⟨d, 0, none⟩) 32 c') 32 ((kcBytes (packL (noK h))).map (Value.int .u8)) ∧ Below W'.heap.size W' w') := fun W' g c hr => by
    have K := l2Keccak_any (some ⟨g, 0, none⟩) (packL (noK h)).length c (packL (noK h)) W' hr (fun e => by cases e) hl
    have e : kcBytes (packL (noK h)) = hashOf (spAt (padB (packL (noK h))) (padLen (packL (noK h)).length / 136)) := if_neg (by omega)
    rw [e]
    exact K
  clear o nn ok kb kb3 bb hf hg
  generalize kcBytes (packL (noK h)) = KB at HKC ⊢
  generalize packL (noK h) = PL at D1 HKC HRG hl hpos
  have HB3 := hide b3
  have E3 := hide e3
  have EB := hide eb
  clear b3 e3 eb
  unfold hvals at EB ⊢
  go_enter Tryz.func46, Tryz.ntmps46
  go_upto_region 1 with fail
  rw [unhide EB]
  clear EB
  go_upto_region 2 with fail
  rw [unhide E3]
  clear E3
  go_wp2_with fail
  refine (unhide D1).mono ?_
  rintro e w4 ⟨a4, c4, rfl, o4, b4⟩
  obtain ⟨g4, c', he⟩ := own_some o4 hpos
  simp only [Value.slice.injEq] at he
  obtain ⟨rfl, -, rfl⟩ := he
  have row4 := BRow.own o4 (unhide HRG)
  have HB4 := hide ((unhide HB3).trans (b4.mono (unhide HB3).size))
  clear b4 o4 fz cz
  go_wp2_with fail
  refine ((unhide HKC) _ g4 c4 row4).mono ?_
  rintro e w5 ⟨d5, c5, rfl, o5, b5⟩
  have hwz : w.heap.size ≤ w4.heap.size := (unhide HB4).size
  have HB5 := hide ((unhide HB4).trans (b5.mono hwz))
  go_wp2_with fail
  go_ret
  exact ⟨d5, c5, rfl, ownsRow_base o5 hwz, unhide HB5⟩

end Go.Proofs.YtioifgbnninmjaaGreatDoor

/- What is proved here: the model's fault of an entry (l10One). -/
namespace Go.Proofs.YtioifgbnninmjaaGreatDoor
open Go.RowKit
set_option linter.unusedVariables false
set_option linter.unusedSimpArgs false
set_option maxRecDepth 100000

set_option maxHeartbeats 8000000 in
theorem l10One_any (s : Sl) (xs : List En) (i : Nat) (x : En) (w : World) (o : RowOk enK w s xs) (hx : xs[i]? = some x) (al : AllOk (xs.take i)) (m : EnSm x) :
    Calls Tryz.prog 69 #[.slice s.a s.n s.c, .int .i64 i] w fun r w' => r = .returned (.int .i64 (enFlt (xs.take i) x)) ∧ Below w.heap.size w w' := by
  obtain ⟨sa, n, cp⟩ := s
  have hlen : n = xs.length := o.len
  have hmx : n ≤ maxLen := Nat.le_trans o.room o.max
  unfold maxLen at hmx
  have hi := (List.getElem?_eq_some_iff.1 hx).1
  obtain ⟨b, off, ha, hent⟩ := o.ent (by show 0 < n; omega)
  have ha' : sa = some ⟨b, off, none⟩ := ha
  subst ha'
  obtain ⟨e, h⟩ := hent i x hx
  have hd : hdK.Ok w e.1 x.1 := h.2.1
  have hz : BOk w e.2.1 x.2.1 := h.2.2.1
  have tl : (xs.take i).length = i := by simp; omega
  have HLD : Hid (∀ W, Below w.heap.size w W → (Instr.loadAt 45 (.pointer (some ⟨b, off + i * 14, none⟩))).run Tryz.prog W = .ok (.agg (hvals e.1 x.1)) W) := fun W hb =>
    ld_run (hvals e.1 x.1).toList 45 _ (fun j v hv => (h.below hb (Nat.le_refl _)).1 j v (ev_hd e x j v hv)) Tryz.underlying45 rfl (by kernel_rfl)
  have HC := hide (fun (W : World) (hb : Below w.heap.size w W) => And.intro ((h.below hb (Nat.le_refl _)).1 11 _ rfl) (And.intro ((h.below hb (Nat.le_refl _)).1 12 _ rfl) (And.intro ((h.below hb (Nat.le_refl _)).1 0 _ rfl) ((h.below hb (Nat.le_refl _)).1 1 _ rfl))))
  have C1 := hide (l5Fault_at b (off + i * 14) e.1 x.1 w (fun j v hv => h.1 j v (ev_hd e x j v hv)) (hd_ok hd) m.h)
  have C2 := hide (fun (hf : hdFlt x.1 = 0) (W : World) (hb : Below w.heap.size w W) => l5Hash_any e.1 x.1 W ((hd_ok hd).below hb (Nat.le_refl _)) ((hd_nil hd).below hb (Nat.le_refl _)) hf)
  have C3 : Hid (∀ (W : World), Below w.heap.size w W → ∀ (a : Option Addr) (n c : Nat), BRow W a n (hsBytes x.1) → Calls Tryz.prog 91 #[.slice e.2.1.a e.2.1.n e.2.1.c, .slice a n c] W fun r w' => r = .returned (.bool (decide (x.2.1 = hsBytes x.1))) ∧ w' = W) := fun W hb a n c hr => by
    have := l1Same_any e.2.1.a a e.2.1.n e.2.1.c n c x.2.1 (hsBytes x.1) W (hz.row.below hb (Nat.le_refl _)) hr
    rwa [strEq_dec hz.row.2.1 hr.2.1] at this
  have HRG := hide (hs_range (hd_ok hd))
  have HHS : Hid (hdFlt x.1 = 0 → kcBytes (packL (noK x.1)) = hsBytes x.1) := fun hf => (if_pos hf).symm
  have C4 := hide (fun (W : World) (hb : Below w.heap.size w W) => l10Find_any ⟨some ⟨b, off, none⟩, n, cp⟩ e.2.1 xs x.2.1 W (RowOk.below o hb (Nat.le_refl _)) (bytesK.below hz hb (Nat.le_refl _)))
  have HFA := hide (fnd_ahead hx)
  have HFR := hide (fnd_range xs x.2.1)
  have HUI := hide (fun (W : World) => in_any x.2.2.1 0 ((i : Int) - 1) W)
  have HUP : Hid (upOk (xs.take i).length x.2.2.1 = if i = 0 then decide (x.2.2.1 = -1) else within x.2.2.1 0 ((i : Int) - 1)) := by show _ = _; rw [tl]; rfl
  have CBH : Hid (∀ u : Nat, u < i → x.2.2.1 = (u : Int) → ∃ y ey, enAt (xs.take i) x.2.2.1 = some y ∧ EAt w b (off + u * 14) ey y ∧ 0 ≤ y.1.n1 ∧ y.1.n1 ≤ 1099511627776 ∧ BOk w ey.2.1 y.2.1) := fun u hu hup => by
    obtain ⟨y, hy⟩ : ∃ y, xs[u]? = some y := ⟨_, List.getElem?_eq_getElem (by omega)⟩
    have hyt : (xs.take i)[u]? = some y := by rw [List.getElem?_take, if_pos hu]; exact hy
    obtain ⟨ey, hey⟩ := hent u y hy
    have hn := (hd_num (al y (List.mem_of_getElem? hyt)).1).1
    refine ⟨y, ey, ?_, hey, hn.1, hn.2, hey.2.2.1⟩
    unfold enAt
    rw [hup, if_neg (by omega)]
    simpa using hyt
  have C8 := hide (fun (hf : hdFlt x.1 = 0) (hu : upOk i x.2.2.1 = true) (W : World) (hb : Below w.heap.size w W) => l10Total_any ⟨some ⟨b, off, none⟩, n, cp⟩ xs i x W (RowOk.below o hb (Nat.le_refl _)) hx hf hu al m)
  have HPB := hide (And.intro hd hz)
  have HE : Hid (enFlt (xs.take i) x = _) := show enFlt (xs.take i) x = _ by unfold enFlt; exact rfl
  generalize enFlt (xs.take i) x = R at HE ⊢
  generalize hvals e.1 x.1 = Vh at HLD C2
  have HQ : Hid (∃ q, q = hdFlt x.1) := ⟨_, rfl⟩
  have i1 : (0 : Int) ≤ (i : Int) := by omega
  have i2 : (i : Int) < (n : Int) := by omega
  have HLN := hide (And.intro hlen (And.intro hx hi))
  clear o h al m hd hz ha hent hlen hx hi tl HQ
  go_enter Tryz.func69, Tryz.ntmps69
  go_wp2_with fail
  refine (unhide C1).mono ?_
  rintro r w1 ⟨rfl, n1, rfl⟩
  by_cases hq : hdFlt x.1 = 0
  case neg =>
    have hne : (hdFlt x.1 != 0) = true := by simp [hq]
    have HE1 := hide ((unhide HE).trans (if_neg hq))
    generalize hdFlt x.1 = q0 at HE1 hne ⊢
    go_wp2_with fail
    go_ret
    exact ⟨ret_int (unhide HE1).symm, below_drewN (Below.refl _ _) _⟩
  have HE1 := hide ((unhide HE).trans (if_pos hq))
  rw [hq]
  have HHS' := hide ((unhide HHS) hq)
  have b1 : Below w.heap.size w (w.drewN n1) := below_drewN (Below.refl _ _) _
  generalize w.drewN n1 = w1 at b1 ⊢
  have C2' := hide ((unhide C2) hq)
  rw [unhide HHS'] at C2'
  have C8' := hide ((unhide C8) hq)
  obtain ⟨t11, t12, t0, t1⟩ := (unhide HC) w1 b1
  clear HE HHS HHS' C2 C8 C1
  by_cases hs : x.2.1 = hsBytes x.1
  · have HE2 := hide ((unhide HE1).trans (if_pos hs))
    have C3' := C3
    rw [decide_eq_true hs] at C3'
    clear C3 HE1 hs
    go_upto_region 5 with fail
    refine wp_region_held_drew (S := (fun W => Below w.heap.size w W ∧ W.cell? ⟨b, off + i * 14 + 11, none⟩ = some (.slice e.2.1.a e.2.1.n e.2.1.c))) (by kernel_rfl) (⟨b1.drew, ((unhide HC) _ b1.drew).1⟩) (fun hHeld => ?_)
    refine wpAnyH_take (i := 0) (oi := _) (v := ?_) rfl (by kernel_rfl) (by kernel_rfl) (by kernel_rfl) (fun _ _ _ h => h) (Or.inl ⟨by rfl, ?_⟩) (by assumption) ?_
    rotate_left
    · ((intro wq hSw; (try dsimp only at hSw); go_simp) <;> with_reducible rfl)
    try dsimp only
    refine wpAnyH_take (i := 1) (oi := _) (v := ?_) rfl (by kernel_rfl) (by kernel_rfl) (by kernel_rfl) (fun _ _ _ h => h) (Or.inl ⟨by rfl, ?_⟩) (by assumption) ?_
    rotate_left
    · ((intro wq hSw; (try dsimp only at hSw); go_simp) <;> with_reducible rfl)
    try dsimp only
    refine wpAnyH_take (i := 2) (oi := _) (v := ?_) rfl (by kernel_rfl) (by kernel_rfl) (by kernel_rfl) (fun _ _ _ h => h) (Or.inl ⟨by rfl, ?_⟩) (by assumption) ?_
    rotate_left
    · ((intro wq hSw; (try dsimp only at hSw); go_simp) <;> with_reducible rfl)
    try dsimp only
    refine wpAnyH_take (i := 3) (oi := _) (v := ?_) rfl (by kernel_rfl) (by kernel_rfl) (by kernel_rfl) (fun _ _ _ h => h) (Or.inl ⟨by rfl, ?_⟩) (by assumption) ?_
    rotate_left
    · ((intro wq hSw; (try dsimp only at hSw); go_simp) <;> with_reducible rfl)
    try dsimp only
    refine wpAnyH_take (i := 4) (oi := _) (v := ?_) rfl (by kernel_rfl) (by kernel_rfl) (by kernel_rfl) (fun _ _ _ h => h) (Or.inl ⟨by rfl, ?_⟩) (by assumption) ?_
    rotate_left
    · ((intro wq hSw; (try dsimp only at hSw); go_simp) <;> with_reducible rfl)
    try dsimp only
    refine wpAnyH_take (i := 5) (oi := _) (v := ?_) rfl (by kernel_rfl) (by kernel_rfl) (by kernel_rfl) (fun _ _ _ h => h) (Or.inl ⟨by rfl, ?_⟩) (by assumption) ?_
    rotate_left
    · ((intro wq hSw; (try dsimp only at hSw); go_simp) <;> with_reducible rfl)
    try dsimp only
    refine wpAnyH_take (i := 6) (oi := _) (v := ?_) rfl (by kernel_rfl) (by kernel_rfl) (by kernel_rfl) (fun _ _ _ h => h) (Or.inl ⟨by rfl, ?_⟩) (by assumption) ?_
    rotate_left
    · ((intro wq hSw; (try dsimp only at hSw); go_simp) <;> with_reducible rfl)
    try dsimp only
    refine wpAnyH_take (i := 7) (oi := _) (v := .agg Vh) rfl (by kernel_rfl) (by kernel_rfl) (by kernel_rfl) (fun _ _ _ h => h) (Or.inl ⟨by rfl, ?_⟩) (by assumption) ?_
    · (intro wq hSw; (try dsimp only at hSw); refine exec_load rfl ?_ ((unhide HLD) wq hSw.1); go_simp)
    try dsimp only
    refine wpAnyH_ready (rs := [8]) (by kernel_rfl) (by simp) ?_
    refine AllReadyH.cons (o := _) rfl (fun K hK => ?_) AllReadyH.nil
    go_simp
    go_at_call 46
    refine ((unhide C2') _ hHeld.1).mono ?_
    rintro r w2 ⟨d2, c2, rfl, o2, b2⟩
    refine hK.out _ _ (⟨hHeld.1.trans (b2.mono hHeld.1.size), ((unhide HC) _ (hHeld.1.trans (b2.mono hHeld.1.size))).1⟩) (fun hHeld => ?_)
    clear hK K
    try dsimp only
    refine wpAnyH_ready (rs := [9]) (by kernel_rfl) (by simp) ?_
    refine AllReadyH.cons (o := _) rfl (fun K hK => ?_) AllReadyH.nil
    go_simp
    go_at_call 91
    refine ((unhide C3') _ hHeld.1 _ _ _ (BRow.own2 o2 (unhide HRG))).mono ?_
    rintro r w3 ⟨rfl, rfl⟩
    refine hK.out _ _ (hHeld) (fun hHeld => ?_)
    clear hK K
    try dsimp only
    refine wpAnyH_take (i := 10) (oi := _) (v := ?_) rfl (by kernel_rfl) (by kernel_rfl) (by kernel_rfl) (fun _ _ _ h => h) (Or.inl ⟨by rfl, ?_⟩) (by assumption) ?_
    rotate_left
    · ((intro wq hSw; (try dsimp only at hSw); go_simp) <;> with_reducible rfl)
    try dsimp only
    refine wpAnyH_done (by kernel_rfl) ?_ _
    have b3 := hHeld.1
    clear b1 b2 hHeld o2 t11 t12 t0 t1
    obtain ⟨t11, t12, t0, t1⟩ := (unhide HC) _ b3
    have B3 := hide b3
    have D4 := hide ((unhide C4) _ b3)
    have hwi : IntKind.i64.wrap (i : Int) = (i : Int) := by rw [IntKind.wrap_i64]; omega
    clear C4 C2' C3' b3
    go_wp2_with fail
    refine (unhide D4).mono ?_
    rintro r w4 ⟨rfl, b4⟩
    have b4' := (unhide B3).trans (b4.mono (unhide B3).size)
    have B4 := hide b4'
    clear b4 t11 t12 t0 t1 D4 B3
    obtain ⟨t11, t12, t0, t1⟩ := (unhide HC) _ b4'
    clear b4'
    by_cases hfp : fnd (xs.take i) x.2.1 = -1
    case neg =>
      have HE3 := hide ((unhide HE2).trans (if_neg hfp))
      have hfi : fnd xs x.2.1 ≠ (i : Int) := fun q => hfp ((unhide HFA).1 q)
      have hne : (fnd xs x.2.1 != (i : Int)) = true := by simp [hfi]
      generalize fnd xs x.2.1 = fp at hne ⊢
      clear HE2 hfp hfi C8' CBH HUI HUP
      go_wp2_with fail
      go_ret
      exact ⟨ret_int (unhide HE3).symm, unhide B4⟩
    have HE3 := hide ((unhide HE2).trans (if_pos hfp))
    rw [(unhide HFA).2 hfp]
    have hne : ((i : Int) != (i : Int)) = false := by simp
    clear HE2 hfp
    by_cases h0 : i = 0
    case pos =>
      subst h0
      simp only [Nat.zero_mul, Nat.add_zero] at t11 t12 t0 t1
      have hup0 := unhide HUP
      rw [if_pos rfl] at hup0
      by_cases hup : x.2.2.1 = -1
      case neg =>
        have hu1 : (x.2.2.1 != -1) = true := by simp [hup]
        rw [decide_eq_false hup] at hup0
        have HE4 := hide ((unhide HE3).trans (if_neg (by rw [hup0]; simp)))
        clear HE3 hup hup0 HUP C8' CBH HUI
        go_wp2_with fail
        go_ret
        exact ⟨ret_int (unhide HE4).symm, unhide B4⟩
      have hu1 : (x.2.2.1 != -1) = false := by simp [hup]
      rw [decide_eq_true hup] at hup0
      have HE4 := hide ((unhide HE3).trans (if_pos hup0))
      have e1 : enAt (xs.take 0) x.2.2.1 = none := by unfold enAt; rw [if_pos hup]
      rw [e1] at HE4
      have HE5 := hide ((unhide HE4).trans (if_pos rfl))
      have D8 := hide (fun (W : World) (hb : Below w4.heap.size w4 W) => (unhide C8') (by unfold upOk; rw [if_pos rfl, decide_eq_true hup]) W ((unhide B4).trans (hb.mono (unhide B4).size)))
      rw [e1] at D8
      generalize ttOk none x = tk at D8 HE5
      clear HE3 HE4 hup hup0 HUP C8' CBH HUI e1
      cases tk
      · go_wp2_with fail
        go_quiet (fail)
        go_wp2_with fail
        refine ((unhide D8) _ (below_drewN (Below.refl _ _) _)).mono ?_
        rintro r w8 ⟨rfl, b8⟩
        have b8' : Below w4.heap.size w4 w8 := (below_drewN (Below.refl _ _) _).trans b8
        have B8 := hide ((unhide B4).trans (b8'.mono (unhide B4).size))
        clear b8'
        clear b8
        go_wp2_with fail
        go_ret
        exact ⟨ret_int (by rw [unhide HE5]; rfl), unhide B8⟩
      · go_wp2_with fail
        go_quiet (fail)
        go_wp2_with fail
        refine ((unhide D8) _ (below_drewN (Below.refl _ _) _)).mono ?_
        rintro r w8 ⟨rfl, b8⟩
        have b8' : Below w4.heap.size w4 w8 := (below_drewN (Below.refl _ _) _).trans b8
        have B8 := hide ((unhide B4).trans (b8'.mono (unhide B4).size))
        clear b8'
        clear b8
        go_wp2_with fail
        go_ret
        exact ⟨ret_int (by rw [unhide HE5]; rfl), unhide B8⟩
    have z0 : (((i : Nat) : Int) == 0) = false := by simp [h0]
    have z1 : decide ((0 : Int) < (i : Int)) = true := decide_eq_true (by omega)
    have z2 : decide (0 < i) = true := decide_eq_true (by omega)
    have hup0 := unhide HUP
    rw [if_neg h0] at hup0
    obtain ⟨j, ej⟩ : ∃ j : Int, (i : Int) - 1 = j := ⟨_, rfl⟩
    rw [ej] at hup0
    have D5 := hide (fun W => (unhide HUI) W)
    rw [ej] at D5
    have wj : IntKind.i64.wrap j = j := by rw [IntKind.wrap_i64]; omega
    have EJ := hide ej
    by_cases hup : 0 ≤ x.2.2.1 ∧ x.2.2.1 ≤ j
    case neg =>
      rw [show within x.2.2.1 0 j = false from decide_eq_false hup] at hup0
      have HE4 := hide ((unhide HE3).trans (if_neg (by rw [hup0]; simp)))
      rw [decide_eq_false hup] at D5
      clear HE3 hup hup0 HUP C8' CBH HUI
      go_wp2_with fail
      refine ((unhide D5) _).mono ?_
      rintro r w5 ⟨rfl, rfl⟩
      go_wp2_with fail
      go_ret
      exact ⟨ret_int (unhide HE4).symm, unhide B4⟩
    rw [show within x.2.2.1 0 j = true from decide_eq_true hup] at hup0
    have HE4 := hide ((unhide HE3).trans (if_pos hup0))
    rw [decide_eq_true hup] at D5
    obtain ⟨u, eu⟩ : ∃ u : Nat, x.2.2.1 = (u : Int) := ⟨x.2.2.1.toNat, by omega⟩
    obtain ⟨y, ey, e1, hat, hn0, hn1, hyz⟩ := (unhide CBH) u (by omega) eu
    rw [e1] at HE4
    have D8 := hide ((unhide C8') (by have := (unhide HUP).symm.trans hup0; unfold upOk; rw [if_neg h0]; rw [if_neg h0] at this; exact this))
    rw [e1] at D8
    have u1 : (0 : Int) ≤ (u : Int) := by omega
    have u2 : (u : Int) < (n : Int) := by omega
    rw [eu] at t12
    have hat4 := hat.below (unhide B4) (Nat.le_refl _)
    have y11 := hat4.1 11 _ rfl
    have y1 := hat4.1 1 _ rfl
    rw [eu] at D5
    have hpr : BRow w4 e.1.p.a e.1.p.n x.1.p := ((hd_ok (unhide HPB).1).p).below (unhide B4) (Nat.le_refl _)
    have hyr : BRow w4 ey.2.1.a ey.2.1.n y.2.1 := (hyz.row).below (unhide B4) (Nat.le_refl _)
    have D7 : Hid (∀ m, Calls Tryz.prog 91 #[.slice e.1.p.a e.1.p.n e.1.p.c, .slice ey.2.1.a ey.2.1.n ey.2.1.c] (w4.drewN m) fun r w' => r = .returned (.bool (decide (x.1.p = y.2.1))) ∧ w' = w4.drewN m) := fun m => by
      have := l1Same_any e.1.p.a ey.2.1.a e.1.p.n e.1.p.c ey.2.1.n ey.2.1.c x.1.p y.2.1 (w4.drewN m) (hpr.below (below_drewN (Below.refl _ _) m) (Nat.le_refl _)) (hyr.below (below_drewN (Below.refl _ _) m) (Nat.le_refl _))
      rwa [strEq_dec hpr.2.1 hyr.2.1] at this
    have hbe : bhOk (some y) x.1 = (decide (x.1.p = y.2.1) && decide (x.1.n1 = y.1.n1 + 1)) := rfl
    obtain ⟨nn, enn⟩ : ∃ q, y.1.n1 + 1 = q := ⟨_, rfl⟩
    have wnn : IntKind.i64.wrap nn = nn := by rw [IntKind.wrap_i64]; omega
    rw [enn] at hbe
    have hbn : (x.1.n1 != nn) = !(decide (x.1.n1 = nn)) := by by_cases q : x.1.n1 = nn <;> simp [q]
    generalize decide (x.1.p = y.2.1) = cp' at D7 hbe
    generalize decide (x.1.n1 = nn) = cn at hbe hbn
    rw [hbe] at HE4
    have D8' := hide (fun (W : World) (hb : Below w4.heap.size w4 W) => (unhide D8) W ((unhide B4).trans (hb.mono (unhide B4).size)))
    clear HE3 hup hup0 HUP C8' CBH HUI hat hat4 D8 hpr hyr hyz hbe HPB HFR HFA
    simp only [Nat.add_zero] at t0
    go_wp2_with fail
    refine ((unhide D5) _).mono ?_
    rintro r w5 ⟨rfl, rfl⟩
    cases cp'
    case false =>
      have HE5 := hide ((unhide HE4).trans (if_neg (by simp)))
      go_wp2_with fail
      go_quiet ((go_at_call 91; exact Calls.quiet_of_same ((unhide D7) _)))
      go_wp2_with fail
      go_ret
      exact ⟨ret_int (unhide HE5).symm, below_drewN (unhide B4) _⟩
    cases cn
    case false =>
      have HE5 := hide ((unhide HE4).trans (if_neg (by simp)))
      have hbn' : (x.1.n1 != nn) = true := hbn
      clear hbn
      go_wp2_with fail
      go_quiet ((go_at_call 91; exact Calls.quiet_of_same ((unhide D7) _)))
      go_wp2_with fail
      go_ret
      exact ⟨ret_int (unhide HE5).symm, below_drewN (unhide B4) _⟩
    have HE5 := hide ((unhide HE4).trans (if_pos (by simp)))
    have hbn' : (x.1.n1 != nn) = false := hbn
    clear hbn HE4
    go_wp2_with fail
    go_quiet ((go_at_call 91; exact Calls.quiet_of_same ((unhide D7) _)))
    generalize ttOk (some y) x = tk at D8' HE5
    cases tk
    all_goals
      go_wp2_with fail
      refine ((unhide D8') _ (below_drewN (Below.refl _ _) _)).mono ?_
      rintro r w8 ⟨rfl, b8⟩
      have b8' : Below w5.heap.size w5 w8 := (below_drewN (Below.refl _ _) _).trans b8
      have B8 := hide ((unhide B4).trans (b8'.mono (unhide B4).size))
      clear b8 b8'
      go_wp2_with fail
      go_ret
      exact ⟨ret_int (by rw [unhide HE5]; rfl), unhide B8⟩
  · have HE2 := hide ((unhide HE1).trans (if_neg hs))
    have C3' := C3
    rw [decide_eq_false hs] at C3'
    clear C3 HE1 hs
    go_upto_region 5 with fail
    refine wp_region_held_drew (S := (fun W => Below w.heap.size w W ∧ W.cell? ⟨b, off + i * 14 + 11, none⟩ = some (.slice e.2.1.a e.2.1.n e.2.1.c))) (by kernel_rfl) (⟨b1.drew, ((unhide HC) _ b1.drew).1⟩) (fun hHeld => ?_)
    refine wpAnyH_take (i := 0) (oi := _) (v := ?_) rfl (by kernel_rfl) (by kernel_rfl) (by kernel_rfl) (fun _ _ _ h => h) (Or.inl ⟨by rfl, ?_⟩) (by assumption) ?_
    rotate_left
    · ((intro wq hSw; (try dsimp only at hSw); go_simp) <;> with_reducible rfl)
    try dsimp only
    refine wpAnyH_take (i := 1) (oi := _) (v := ?_) rfl (by kernel_rfl) (by kernel_rfl) (by kernel_rfl) (fun _ _ _ h => h) (Or.inl ⟨by rfl, ?_⟩) (by assumption) ?_
    rotate_left
    · ((intro wq hSw; (try dsimp only at hSw); go_simp) <;> with_reducible rfl)
    try dsimp only
    refine wpAnyH_take (i := 2) (oi := _) (v := ?_) rfl (by kernel_rfl) (by kernel_rfl) (by kernel_rfl) (fun _ _ _ h => h) (Or.inl ⟨by rfl, ?_⟩) (by assumption) ?_
    rotate_left
    · ((intro wq hSw; (try dsimp only at hSw); go_simp) <;> with_reducible rfl)
    try dsimp only
    refine wpAnyH_take (i := 3) (oi := _) (v := ?_) rfl (by kernel_rfl) (by kernel_rfl) (by kernel_rfl) (fun _ _ _ h => h) (Or.inl ⟨by rfl, ?_⟩) (by assumption) ?_
    rotate_left
    · ((intro wq hSw; (try dsimp only at hSw); go_simp) <;> with_reducible rfl)
    try dsimp only
    refine wpAnyH_take (i := 4) (oi := _) (v := ?_) rfl (by kernel_rfl) (by kernel_rfl) (by kernel_rfl) (fun _ _ _ h => h) (Or.inl ⟨by rfl, ?_⟩) (by assumption) ?_
    rotate_left
    · ((intro wq hSw; (try dsimp only at hSw); go_simp) <;> with_reducible rfl)
    try dsimp only
    refine wpAnyH_take (i := 5) (oi := _) (v := ?_) rfl (by kernel_rfl) (by kernel_rfl) (by kernel_rfl) (fun _ _ _ h => h) (Or.inl ⟨by rfl, ?_⟩) (by assumption) ?_
    rotate_left
    · ((intro wq hSw; (try dsimp only at hSw); go_simp) <;> with_reducible rfl)
    try dsimp only
    refine wpAnyH_take (i := 6) (oi := _) (v := ?_) rfl (by kernel_rfl) (by kernel_rfl) (by kernel_rfl) (fun _ _ _ h => h) (Or.inl ⟨by rfl, ?_⟩) (by assumption) ?_
    rotate_left
    · ((intro wq hSw; (try dsimp only at hSw); go_simp) <;> with_reducible rfl)
    try dsimp only
    refine wpAnyH_take (i := 7) (oi := _) (v := .agg Vh) rfl (by kernel_rfl) (by kernel_rfl) (by kernel_rfl) (fun _ _ _ h => h) (Or.inl ⟨by rfl, ?_⟩) (by assumption) ?_
    · (intro wq hSw; (try dsimp only at hSw); refine exec_load rfl ?_ ((unhide HLD) wq hSw.1); go_simp)
    try dsimp only
    refine wpAnyH_ready (rs := [8]) (by kernel_rfl) (by simp) ?_
    refine AllReadyH.cons (o := _) rfl (fun K hK => ?_) AllReadyH.nil
    go_simp
    go_at_call 46
    refine ((unhide C2') _ hHeld.1).mono ?_
    rintro r w2 ⟨d2, c2, rfl, o2, b2⟩
    refine hK.out _ _ (⟨hHeld.1.trans (b2.mono hHeld.1.size), ((unhide HC) _ (hHeld.1.trans (b2.mono hHeld.1.size))).1⟩) (fun hHeld => ?_)
    clear hK K
    try dsimp only
    refine wpAnyH_ready (rs := [9]) (by kernel_rfl) (by simp) ?_
    refine AllReadyH.cons (o := _) rfl (fun K hK => ?_) AllReadyH.nil
    go_simp
    go_at_call 91
    refine ((unhide C3') _ hHeld.1 _ _ _ (BRow.own2 o2 (unhide HRG))).mono ?_
    rintro r w3 ⟨rfl, rfl⟩
    refine hK.out _ _ (hHeld) (fun hHeld => ?_)
    clear hK K
    try dsimp only
    refine wpAnyH_take (i := 10) (oi := _) (v := ?_) rfl (by kernel_rfl) (by kernel_rfl) (by kernel_rfl) (fun _ _ _ h => h) (Or.inl ⟨by rfl, ?_⟩) (by assumption) ?_
    rotate_left
    · ((intro wq hSw; (try dsimp only at hSw); go_simp) <;> with_reducible rfl)
    try dsimp only
    refine wpAnyH_done (by kernel_rfl) ?_ _
    have B2 := hide hHeld.1
    clear b1 hHeld b2 o2
    go_wp2_with fail
    go_ret
    exact ⟨ret_int (unhide HE2).symm, unhide B2⟩

end Go.Proofs.YtioifgbnninmjaaGreatDoor

/- What is proved here: the model's fault of a store (l10Fault, StoreFault). -/
namespace Go.Proofs.YtioifgbnninmjaaGreatDoor
open Go.RowKit
set_option linter.unusedVariables false
set_option linter.unusedSimpArgs false
set_option maxRecDepth 100000

set_option maxHeartbeats 8000000 in
theorem l10Fault_any (g of' : Nat) (s : Sl) (x : St) (w : World) (sb : ∀ j v, (tvals s x).toList[j]? = some v → w.cell? ⟨g, of' + j, none⟩ = some v) (o : RowOk enK w s x.2) (m : StSm x) :
    Calls Tryz.prog 34 #[.pointer (some ⟨g, of', none⟩)] w fun r w' => r = .returned (.int .i64 (stFlt x)) ∧ Below w.heap.size w w' := by
  obtain ⟨c, xs⟩ := x
  obtain ⟨sa, n, cp⟩ := s
  have o' : RowOk enK w ⟨sa, n, cp⟩ xs := o
  have hlen : n = xs.length := o'.len
  have hmax : n ≤ maxLen := Nat.le_trans o'.room o'.max
  unfold maxLen at hmax
  have D1 := hide (l8Fault_at g of' c w (fun j v hv => by
    have hj : j < 3 := (List.getElem?_eq_some_iff.1 hv).1
    match j, hj, hv with
    | 0, _, hv | 1, _, hv | 2, _, hv => exact sb _ v hv))
  have x3 := sb 3 _ rfl
  have HX3 := hide (fun (W : World) (hb : Below w.heap.size w W) => (hb.cell (p := ⟨g, of' + 3, none⟩) (lt_of_cell x3)).trans x3)
  have HE : Hid (stFlt (c, xs) = _) := show stFlt (c, xs) = _ by unfold stFlt; exact rfl
  generalize stFlt (c, xs) = R at HE ⊢
  dsimp only at HE
  generalize cfFlt c = q0 at D1 HE
  have HRO := hide (fun (W : World) (hb : Below w.heap.size w W) => RowOk.below o' hb (Nat.le_refl _))
  have HM := hide m
  have HL := hide hlen
  simp only at x3 HX3
  clear o o' m hlen sb
  go_enter Tryz.func34, Tryz.ntmps34
  go_wp2_with fail
  refine (unhide D1).mono ?_
  rintro r w1 ⟨rfl, rfl⟩
  clear D1
  by_cases hq : q0 = 0
  case neg =>
    have HE1 := hide ((unhide HE).trans (if_neg hq))
    have hne : (q0 != 0) = true := by simp [hq]
    clear HE hq
    go_wp2_with fail
    go_ret
    exact ⟨ret_int (unhide HE1).symm, Below.refl _ _⟩
  subst hq
  have HE1 := hide ((unhide HE).trans (if_pos rfl))
  clear HE
  by_cases hw : 1 ≤ xs.length ∧ xs.length ≤ 24
  case neg =>
    have HE2 := hide ((unhide HE1).trans (if_neg hw))
    by_cases hn : n < 1
    · have d1 : decide ((n : Int) < 1) = true := decide_eq_true (by omega)
      obtain rfl : n = 0 := by omega
      clear HE1 hw hn
      go_wp2_with fail
      try go_quiet (fail)
      go_wp2_with fail
      go_ret
      exact ⟨ret_int (unhide HE2).symm, by first | exact Below.refl _ _ | exact below_drewN (Below.refl _ _) _⟩
    · have d1 : decide ((n : Int) < 1) = false := decide_eq_false (by omega)
      have d1' : decide (n < 1) = false := decide_eq_false (by omega)
      have d2 : decide ((24 : Int) < (n : Int)) = true := decide_eq_true (by have := unhide HL; omega)
      have d2' : decide (24 < n) = true := decide_eq_true (by have := unhide HL; omega)
      clear HE1 hw hn
      go_wp2_with fail
      try go_quiet (fail)
      go_wp2_with fail
      go_ret
      exact ⟨ret_int (unhide HE2).symm, by first | exact Below.refl _ _ | exact below_drewN (Below.refl _ _) _⟩
  have HE2 := hide ((unhide HE1).trans (if_pos hw))
  have hs1 : 1 ≤ n ∧ n ≤ 24 := by have := unhide HL; omega
  have d1 : decide ((n : Int) < 1) = false := decide_eq_false (by omega)
  have d1' : decide (n < 1) = false := decide_eq_false (by omega)
  have d2 : decide ((24 : Int) < (n : Int)) = false := decide_eq_false (by omega)
  have d2' : decide (24 < n) = false := decide_eq_false (by omega)
  clear HE1 hw
  obtain ⟨b, off, ha, hent⟩ := ((unhide HRO) w1 (Below.refl _ _)).ent (by show 0 < n; omega)
  have HENT := hide (fun (W : World) (hb : Below w1.heap.size w1 W) (i : Nat) (y : En) (hy : xs[i]? = some y) => match hent i y hy with | ⟨e, h⟩ => (⟨e, h.below hb (Nat.le_refl _)⟩ : ∃ e, EAt W b (off + i * 14) e y))
  have ha' : sa = some ⟨b, off, none⟩ := ha
  subst ha'
  generalize hen : enFrom xs xs.length 0 = ef at HE2
  have HEF : Hid (ef = enFrom xs (xs.length - 0) 0) := hen.symm
  clear hen hent ha
  go_wp2_with fail
  try go_quiet (fail)
  go_wp2_with fail
  go_loopw [4] (fun i wr => ∃ k : Nat, k ≤ n ∧ i = .int .i64 k ∧ ef = enFrom xs (xs.length - k) k ∧ AllOk (xs.take k) ∧ Below w1.heap.size w1 wr) (fun i _ => n - (intOf i).toNat)
  case atStart => exact ⟨0, Nat.zero_le _, rfl, unhide HEF, fun y hy => by simp at hy, by first | exact Below.refl _ _ | exact below_drewN (Below.refl _ _) _⟩
  case round =>
    obtain ⟨k, hk, rfl, hef, hall, hbr⟩ := hrel
    have x3' := (unhide HX3) wr hbr
    have HBR := hide hbr
    clear x3 HEF
    by_cases hlt : k < n
    · have hkx : k < xs.length := by rw [← unhide HL]; exact hlt
      obtain ⟨y, hy⟩ : ∃ y, xs[k]? = some y := ⟨_, List.getElem?_eq_getElem hkx⟩
      rw [enFrom_step xs k y hy] at hef
      have HD := hide (l10One_any ⟨some ⟨b, off, none⟩, n, cp⟩ xs k y wr ((unhide HRO) wr hbr) hy hall ((unhide HM).e y (List.mem_of_getElem? hy)))
      have i1 : (0 : Int) ≤ (k : Int) := by omega
      have i2 : (k : Int) < (n : Int) := by omega
      have HST := hide (fun (h0 : enFlt (xs.take k) y = 0) => hall.step hy h0)
      generalize enFlt (xs.take k) y = q at HD hef HST
      have HEF := hide hef
      clear hef hall hy hkx hbr
      by_cases hq : q = 0
      · subst hq
        have hq' : ((0 : Int) != 0) = false := by simp
        go_wp2_with fail
        refine (unhide HD).mono ?_
        rintro r w3 ⟨rfl, b3⟩
        have B3 := hide ((unhide HBR).trans (b3.mono (unhide HBR).size))
        clear b3
        go_wp2_with fail
        go_roundw
        case rel => exact ⟨k + 1, by omega, by go_num, by have := unhide HEF; simpa using this, (unhide HST) (by first | rfl | trivial), unhide B3⟩
        case measure => simp [intOf]; omega
      · have hq' : (q != 0) = true := by simp [hq]
        have HEE : Hid (R = q) := by
          have h1 := unhide HEF
          have h2 := unhide HE2
          rw [if_neg hq] at h1
          rw [h1, if_neg hq] at h2
          exact h2
        clear HEF HE2
        go_wp2_with fail
        refine (unhide HD).mono ?_
        rintro r w3 ⟨rfl, b3⟩
        have B3 := hide ((unhide HBR).trans (b3.mono (unhide HBR).size))
        clear b3
        go_wp2_with fail
        go_ret
        exact ⟨ret_int (unhide HEE).symm, unhide B3⟩
    · obtain rfl : k = n := by omega
      rw [enFrom_end xs k (by rw [unhide HL]; exact Nat.le_refl _)] at hef
      obtain ⟨y, hy⟩ : ∃ y, xs[0]? = some y := ⟨_, List.getElem?_eq_getElem (by rw [← unhide HL]; omega)⟩
      obtain ⟨e, he⟩ := (unhide HENT) wr hbr 0 y hy
      have y6 := he.1 6 _ rfl
      simp only [Nat.zero_mul, Nat.add_zero] at y6
      have hys : y.1.s.length = e.1.s.n := (hd_ok he.2.1).s.1
      have HE3 : Hid (R = if e.1.s.n = 0 then 4 else 0) := by
        have h2 := unhide HE2
        rw [if_pos hef] at h2
        cases xs with
        | nil => simp at hy
        | cons y' r =>
          simp at hy
          subst hy
          rw [← hys]
          exact h2
      clear HE2 hef hall he hy hys hbr
      have j1 : (0 : Int) < (k : Int) := by omega
      by_cases hz : e.1.s.n = 0
      · rw [if_pos hz] at HE3
        have hz' : (((e.1.s.n : Nat) : Int) == 0) = true := by simp [hz]
        clear hz
        go_wp2_with fail
        go_ret
        exact ⟨ret_int (unhide HE3).symm, unhide HBR⟩
      · rw [if_neg hz] at HE3
        have hz' : (((e.1.s.n : Nat) : Int) == 0) = false := by simp [hz]
        clear hz
        go_wp2_with fail
        go_ret
        exact ⟨ret_int (unhide HE3).symm, unhide HBR⟩

theorem specStoreFault_any (s : Sl) (x : St) (w : World) (o : RowOk enK w s x.2) (m : StSm x) :
    Calls Tryz.prog 8 #[.agg (tvals s x)] w fun r w' => r = .returned (.int .i64 (stFlt x)) ∧ Below w.heap.size w w' := by
  have k0 := SBlk.new w (tvals s x) 32
  have k2 := below_alloc w (.cells (tvals s x) 32)
  obtain ⟨W0, e0⟩ : ∃ W, w.alloc (.cells (tvals s x) 32) = W := ⟨_, rfl⟩
  rw [e0] at k0 k2
  have D1 := hide (l10Fault_any w.heap.size 0 s x W0 (fun j v hv => by rw [Nat.zero_add, k0.cell]; exact hv) (RowOk.below o k2 (Nat.le_refl _)) m)
  have HB0 := hide k2
  have E0 := hide e0
  unfold tvals at E0 ⊢
  generalize stFlt x = R at D1 ⊢
  clear e0 o m k0 k2
  go_enter Tryz.func8, Tryz.ntmps8
  go_upto_region 1 with fail
  rw [unhide E0]
  clear E0
  go_wp2_with fail
  refine (unhide D1).mono ?_
  rintro r w1 ⟨rfl, b1⟩
  have B1 := hide ((unhide HB0).trans (b1.mono (unhide HB0).size))
  clear b1
  go_wp2_with fail
  go_ret
  exact ⟨rfl, unhide B1⟩

end Go.Proofs.YtioifgbnninmjaaGreatDoor

/- What is proved here: the contracts of the laws' helper functions that copy entries and stores (toEntryS, toStore). -/
namespace Go.Proofs.YtioifgbnninmjaaGreatDoor
open Go.RowKit
set_option linter.unusedVariables false
set_option linter.unusedSimpArgs false
set_option maxRecDepth 100000

/-- A thing stored whole at its place in a row. -/
theorem RowPart.store {α β : Type} {K : Kd α β} {T : TypeId} {w : World} {B : Nat} {d : Nat → Path} {p : Path} {s : Sl} {xs : List α} {k : Nat} (h : RowPart K T w B d p s xs k) {g off : Nat} (ha : s.a = some ⟨g, off, none⟩) {i : Nat} (hi : i < xs.length) (us : List Value) (hu : us.length = K.m) (ty : TypeId) (hf : (Tryz.prog.info? ty).map (·.size) = some us.length) (h1 : us.toArray.all (·.oneCell') = true) :
    (Instr.storeAt ty (.pointer (some ⟨g, off + i * K.m, none⟩)) (.agg us.toArray)).run Tryz.prog w = .ok () (putRow w g (off + i * K.m) us) := by
  obtain ⟨q1, q2⟩ := h.slot ha hi
  rw [putRow_cells]
  refine run_storeAt_mid (P := Tryz.prog) w g _ ty us.toArray (fun j hj => ⟨?_, q2 _⟩) (by simpa using hf) h1
  obtain ⟨u, hq⟩ := q1 j (by simp at hj; omega)
  rw [hq]
  rfl

theorem infoEntry : (Tryz.prog.info? 76).map (fun i => (i.zero, i.size, i.bytes)) = some (some (.agg ez14), 14, 256) := by kernel_rfl

set_option maxHeartbeats 4000000 in
theorem toEntryS_any (p : Path) (s : Sl) (xs : List En) (w : World) (o : RowOk enK w s xs) (hl : xs.length ≤ 1048576) (hz : ∀ x ∈ xs, EnSm x) :
    Calls Tryz.prog 35 #[.slice s.a s.n s.c] w fun e w' => ∃ (t : Sl) (d : Nat → Path), e = .returned (.slice t.a t.n t.c) ∧ ensK.Own w' w.heap.size d p t xs ∧ Below w.heap.size w w' := by
  obtain ⟨i0, hi, hz0, hz1, hz2⟩ := info_parts infoEntry
  obtain ⟨a, len, cap⟩ := s
  have hil : len = xs.length := o.len
  rcases Nat.eq_zero_or_pos len with h0 | hp
  · subst h0
    obtain rfl : xs = [] := List.length_eq_zero_iff.1 hil.symm
    clear o hl hz hil
    go_enter Tryz.func35, Tryz.ntmps35
    go_wp2_with (at_make; refine wpList_make_full _ rfl _ _ 30 rfl w.heap.size 76 i0 (.agg ez14) 14 Tryz.underlying30 hi hz0 hz1 _ _ _ _ 0 rfl rfl rfl rfl ?c1 ?c2 ?c3 ?_)
    case c1 => omega
    case c2 => unfold maxLen; omega
    case c3 => omega
    intro w1 hown hgrow
    go_wp2
    refine wp_loop_rounds 1 ?_
    rw [rounds_succ]
    go_wp2
    go_ret
    exact ⟨⟨some ⟨w.heap.size, 0, none⟩, 0, 0⟩, fun _ => p, rfl, RowPart.zero (OwnS.of hown) rfl (fun _ _ => rfl), (Below.refl _ _).grown hgrow (Nat.le_refl _) (fun k e => by cases e)⟩
  · obtain ⟨b, off, ea, hb, hc⟩ := o.pos hp
    simp only at ea
    subst ea
    have HC := hide (fun (W : World) (hbl : Below w.heap.size w W) (i : Nat) (x : En) (hx : xs[i]? = some x) => match hc i x hx with | ⟨e, c, o⟩ => (⟨e, fun j v hv => (hbl.cell (p := ⟨b, off + i * 14 + j, none⟩) hb).trans (c j v hv), enK.below o hbl (Nat.le_refl _)⟩ : ∃ e : EnS, (∀ j v, (evals e x).toList[j]? = some v → W.cell? ⟨b, off + i * 14 + j, none⟩ = some v) ∧ enK.Ok W e x))
    have HL := hide hil
    have HZ := hide hz
    have hla : len ≤ 1048576 := by omega
    clear o hc hil hz hl
    go_enter Tryz.func35, Tryz.ntmps35
    go_wp2_with (at_make; refine wpList_make_full _ rfl _ _ 30 rfl w.heap.size 76 i0 (.agg ez14) 14 Tryz.underlying30 hi hz0 hz1 _ _ _ _ len rfl rfl rfl rfl ?c1 ?c2 ?c3 ?_)
    case c1 => rw [hz2]; omega
    case c2 => unfold maxLen; omega
    case c3 => omega
    intro w1 hown hgrow
    have hst : RowPart enK 76 w1 w.heap.size (fun _ => p) p ⟨some ⟨w.heap.size, 0, none⟩, len, len⟩ xs 0 := RowPart.zero (OwnS.of hown) (unhide HL) (fun _ _ => rfl)
    have hbel : Below w.heap.size w w1 := (Below.refl _ _).grown hgrow (Nat.le_refl _) (fun k e => by cases e)
    clear hown hgrow
    go_wp2_with fail
    go_loopw [4] (fun i wr => ∃ (k : Nat) (d : Nat → Path), k ≤ len ∧ i = .int .i64 k ∧ RowPart enK 76 wr w.heap.size d p ⟨some ⟨w.heap.size, 0, none⟩, len, len⟩ xs k ∧ w.heap.size < wr.heap.size ∧ Below w.heap.size w wr) (fun i _ => len - (intOf i).toNat)
    case atStart => exact ⟨0, fun _ => p, Nat.zero_le _, rfl, hst, by obtain ⟨_, _, _, _, h, _⟩ := hst; exact (h.blk (x := ⟨w.heap.size, 0, none⟩) rfl).2, hbel⟩
    case round =>
      obtain ⟨k, d, hk, rfl, hup, hsw, hbr⟩ := hrel
      clear hst hbel
      by_cases hlt : k < len
      · have hkx : k < xs.length := by rw [← unhide HL]; exact hlt
        obtain ⟨x, hx⟩ : ∃ x, xs[k]? = some x := ⟨_, List.getElem?_eq_getElem hkx⟩
        have mx := (unhide HZ) x (List.mem_of_getElem? hx)
        obtain ⟨e, c, o⟩ := (unhide HC) wr hbr k x hx
        have HLD : Hid (∀ W, Below wr.heap.size wr W → (Instr.loadAt 113 (.pointer (some ⟨b, off + k * 14, none⟩))).run Tryz.prog W = .ok (.agg (evals e x)) W) := fun W hbl =>
          ld_run (evals e x).toList 113 _ (fun j v hv => (hbl.cell (p := ⟨b, off + k * 14 + j, none⟩) (lt_of_cell (c j v hv))).trans (c j v hv)) Tryz.underlying113 rfl (by kernel_rfl)
        have HT := hide (fun (W : World) (hbl : Below wr.heap.size wr W) => toEntry_any (p ++ [k]) e x W (enK.below o hbl (Nat.le_refl _)) mx)
        have HST := hide (fun (w2 : World) (hb : Below wr.heap.size wr w2) (us : List Value) (hu : us.length = 14) (h1 : us.toArray.all (·.oneCell') = true) => (hup.frame (w' := w2) (fun g h1 _ _ => hb.block g h1)).store (g := w.heap.size) (off := 0) rfl (i := k) hkx us hu 76 (by rw [hu]; kernel_rfl) h1)
        have hstep := hide (fun (w2 : World) (d2 : Nat → Path) (e2 : EnS) (hb : Below wr.heap.size wr w2) (ho : enK.Own w2 wr.heap.size d2 (p ++ [k]) e2 x) => hup.step hx (fun g hg => hb.block g hg) (d2 := joinD wr.heap.size d d2) (fun g hg => joinD_lt hg) (enK.base (Kd.right enK ho (Nat.le_refl _)) (Nat.le_of_lt hsw)) (g := w.heap.size) (off := 0) rfl)
        have HB := hide hbr
        have i1 : (0 : Int) ≤ (k : Int) := by omega
        have i2 : (k : Int) < (len : Int) := by omega
        clear hup hbr c o hx mx hkx
        go_wp2_with (refine wpList_load_eq rfl 113 _ rfl _ _ rfl ((unhide HLD) _ (by first | exact Below.refl _ _ | exact (Below.refl _ _).drew)) ?_)
        refine ((unhide HT) _ (by first | exact Below.refl _ _ | exact (Below.refl _ _).drew)).mono ?_
        rintro r w2 ⟨e2, d2, rfl, o2, b2⟩
        have b2' : Below wr.heap.size wr w2 := by first | exact b2 | exact Below.trans ((Below.refl _ _).drew) b2
        have HS := hide ((unhide HST) w2 b2' (evals e2 x).toList rfl (evals_one _ _))
        have HN := hide ((unhide hstep) w2 d2 e2 b2' o2)
        have HB2 := hide (putRow_below (evals e2 x).toList w w2 w.heap.size w.heap.size (k * 14) ((unhide HB).trans (b2'.mono (unhide HB).size)) (Nat.le_refl _))
        have hs2 : w.heap.size < (putRow w2 w.heap.size (k * 14) (evals e2 x).toList).heap.size := by rw [putRow_size]; exact Nat.lt_of_lt_of_le hsw b2'.size
        simp only [Nat.zero_add, show enK.m = 14 from rfl, enK_vals] at HS HN
        obtain ⟨W2, eW2⟩ : ∃ W, putRow w2 w.heap.size (k * 14) (evals e2 x).toList = W := ⟨_, rfl⟩
        rw [eW2] at HS HN HB2 hs2
        clear o2 b2 b2' HST hstep eW2
        have HV : Hid ((evals e2 x).toList.toArray = evals e2 x) := rfl
        rw [unhide HV] at HS
        generalize evals e2 x = V at HS
        go_wp2_with (refine wpList_store_eq rfl 76 _ _ rfl _ _ rfl rfl _ (unhide HS) ?_)
        go_roundw
        case rel => exact ⟨k + 1, joinD wr.heap.size d d2, by omega, by go_num, unhide HN, hs2, unhide HB2⟩
        case measure => simp [intOf]; omega
      · obtain rfl : k = len := by omega
        have HU := hide hup
        have HB := hide hbr
        clear hup hbr
        go_wp2_with fail
        go_ret
        refine ⟨⟨some ⟨w.heap.size, 0, none⟩, k, k⟩, d, rfl, ?_, unhide HB⟩
        show RowPart enK _ _ _ _ _ _ xs xs.length
        rw [← unhide HL]
        exact unhide HU

set_option maxHeartbeats 4000000 in
theorem toStore_any (p : Path) (s : Sl) (x : St) (w : World) (o : RowOk enK w s x.2) (m : StSm x) :
    Calls Tryz.prog 9 #[.agg (tvals s x)] w fun e w' => ∃ (t : Sl) (d : Nat → Path), e = .returned (.agg (tvals t x)) ∧ ensK.Own w' w.heap.size d p t x.2 ∧ Below w.heap.size w w' := by
  obtain ⟨c, xs⟩ := x
  have o' : RowOk enK w s xs := o
  have HC := hide (fun (W : World) => toConfig_any c W)
  have HT := hide (fun (W : World) (hb : Below w.heap.size w W) => toEntryS_any p s xs W (RowOk.below o' hb (Nat.le_refl _)) m.n m.e)
  obtain ⟨k0, k1, k2, K0, hsz⟩ := three_blk w (tvals s (c, xs)) #[.int .i64 0, .int .i64 0, .int .i64 0, .slice none 0 0] #[.int .i64 0, .int .i64 0, .int .i64 0, .slice none 0 0] 26 32 32
  obtain ⟨W0, e0⟩ : ∃ W0, ((w.alloc (.cells (tvals s (c, xs)) 26)).alloc (.cells #[.int .i64 0, .int .i64 0, .int .i64 0, .slice none 0 0] 32)).alloc (.cells #[.int .i64 0, .int .i64 0, .int .i64 0, .slice none 0 0] 32) = W0 := ⟨_, rfl⟩
  rw [e0] at k0 k1 k2 K0 hsz
  have E0 := hide e0
  clear e0 o o' m
  unfold cfvals at HC
  unfold tvals at E0 k0 ⊢
  dsimp only at E0 k0 ⊢
  have x0 := k0.cell 0
  have x1 := k0.cell 1
  have x2 := k0.cell 2
  simp only [List.getElem?_cons_zero, List.getElem?_cons_succ] at x0 x1 x2
  go_enter Tryz.func9, Tryz.ntmps9
  go_upto_region 2 with fail
  rw [unhide E0]
  clear E0
  have Q := hide (And.intro k0 (And.intro k1 (And.intro k2 (And.intro K0 hsz))))
  clear k0 k1 k2 K0 hsz
  go_wp2_with fail
  refine ((unhide HC) _).mono ?_
  rintro r w1 ⟨rfl, b1⟩
  obtain ⟨k0, k1, k2, K0, hsz⟩ := unhide Q
  have k0 := k0.below b1 (by omega)
  have k1 := k1.below b1 (by omega)
  have k2 := k2.below b1 (by omega)
  have K1 := K0.trans (b1.mono (by omega))
  have hs1 : w.heap.size + 3 ≤ w1.heap.size := Nat.le_trans (Nat.le_of_eq hsz.symm) b1.size
  have x3 := k0.cell 3
  have u0 := k2.cell 0
  have u1 := k2.cell 1
  have u2 := k2.cell 2
  have f0 := k2.free 0
  have f1 := k2.free 1
  have f2 := k2.free 2
  simp only [List.getElem?_cons_zero, List.getElem?_cons_succ] at x3 u0 u1 u2
  have R := hide (And.intro k1 (And.intro k2 (And.intro K1 hs1)))
  clear k0 k1 k2 K0 hsz K1 hs1 b1 Q x0 x1 x2
  go_wp2_with fail
  obtain ⟨k1, k2, K1, hs1⟩ := unhide R
  clear R x3 u0 u1 u2 f0 f1 f2
  have k1 := ((k1.other (g' := w.heap.size + 2) (i := 0) (v := .int .i64 c.1) (by omega)).other (g' := w.heap.size + 2) (i := 1) (v := .int .i64 c.2.1) (by omega)).other (g' := w.heap.size + 2) (i := 2) (v := .int .i64 c.2.2) (by omega)
  have k2 := ((k2.set 0 (.int .i64 c.1)).set 1 (.int .i64 c.2.1)).set 2 (.int .i64 c.2.2)
  have K1 := ((K1.setCell (p := ⟨w.heap.size + 2, 0, none⟩) (by show w.heap.size ≤ w.heap.size + 2; omega) (.int .i64 c.1)).setCell (p := ⟨w.heap.size + 2, 1, none⟩) (by show w.heap.size ≤ w.heap.size + 2; omega) (.int .i64 c.2.1)).setCell (p := ⟨w.heap.size + 2, 2, none⟩) (by show w.heap.size ≤ w.heap.size + 2; omega) (.int .i64 c.2.2)
  have hz1 : (((w1.setCell ⟨w.heap.size + 2, 0, none⟩ (.int .i64 c.1)).setCell ⟨w.heap.size + 2, 1, none⟩ (.int .i64 c.2.1)).setCell ⟨w.heap.size + 2, 2, none⟩ (.int .i64 c.2.2)).heap.size = w1.heap.size := by rw [size_set', size_set', size_set']
  generalize (((w1.setCell ⟨w.heap.size + 2, 0, none⟩ (.int .i64 c.1)).setCell ⟨w.heap.size + 2, 1, none⟩ (.int .i64 c.2.1)).setCell ⟨w.heap.size + 2, 2, none⟩ (.int .i64 c.2.2)) = W1 at k1 k2 K1 hz1 ⊢
  refine ((unhide HT) _ K1).mono ?_
  rintro r w2 ⟨t, d, rfl, q, b2⟩
  have k1 := k1.below b2 (by omega)
  have k2 := k2.below b2 (by omega)
  have K2 := K1.trans (b2.mono (by omega))
  have m2 := Kd.made _ q
  simp only [List.set_cons_zero, List.set_cons_succ] at k2
  have u0 := k2.cell 0
  have u1 := k2.cell 1
  have u2 := k2.cell 2
  have u3 := k2.cell 3
  have f3 := k2.free 3
  have r0 := k1.cell 0
  have r1 := k1.cell 1
  have r2 := k1.cell 2
  have r3 := k1.cell 3
  have q0 := k1.free 0
  have q1 := k1.free 1
  have q2 := k1.free 2
  have q3 := k1.free 3
  simp only [List.getElem?_cons_zero, List.getElem?_cons_succ] at u0 u1 u2 u3 r0 r1 r2 r3
  have Q := hide (And.intro K2 (And.intro m2 (And.intro hz1 hs1)))
  clear k1 k2 K1 K2 m2 hz1 hs1 b2 q HT HC
  go_wp2_with fail
  obtain ⟨K2, m2, hz1, hs1⟩ := unhide Q
  refine bodyPost_ret (v := .agg #[.int .i64 c.1, .int .i64 c.2.1, .int .i64 c.2.2, .slice t.a t.n t.c]) (by simp [results, Tryz.results9, go_sem, r0, r1, r2, r3]) rfl ⟨t, d, rfl, ?_, ?_⟩
  · have m3 := ((((m2.set (q := ⟨w.heap.size + 2, 3, none⟩) (by show w.heap.size + 2 < _; omega) (.slice t.a t.n t.c)).set (q := ⟨w.heap.size + 1, 0, none⟩) (by show w.heap.size + 1 < _; omega) (.int .i64 c.1)).set (q := ⟨w.heap.size + 1, 1, none⟩) (by show w.heap.size + 1 < _; omega) (.int .i64 c.2.1)).set (q := ⟨w.heap.size + 1, 2, none⟩) (by show w.heap.size + 1 < _; omega) (.int .i64 c.2.2)).set (q := ⟨w.heap.size + 1, 3, none⟩) (by show w.heap.size + 1 < _; omega) (.slice t.a t.n t.c)
    exact ensK.base (m3 d (fun g _ _ => rfl)) (by omega)
  · exact ((((K2.setCell (p := ⟨w.heap.size + 2, 3, none⟩) (by show w.heap.size ≤ w.heap.size + 2; omega) (.slice t.a t.n t.c)).setCell (p := ⟨w.heap.size + 1, 0, none⟩) (by show w.heap.size ≤ w.heap.size + 1; omega) (.int .i64 c.1)).setCell (p := ⟨w.heap.size + 1, 1, none⟩) (by show w.heap.size ≤ w.heap.size + 1; omega) (.int .i64 c.2.1)).setCell (p := ⟨w.heap.size + 1, 2, none⟩) (by show w.heap.size ≤ w.heap.size + 1; omega) (.int .i64 c.2.2)).setCell (p := ⟨w.heap.size + 1, 3, none⟩) (by show w.heap.size ≤ w.heap.size + 1; omega) (.slice t.a t.n t.c)

end Go.Proofs.YtioifgbnninmjaaGreatDoor

/- What is proved here: the contracts of the laws' helper functions that count entries and stores: what they leave is below 0, or all is small (szInt64S, szEntry, szEntryS, szStore). -/
namespace Go.Proofs.YtioifgbnninmjaaGreatDoor
open Go.RowKit
set_option linter.unusedVariables false
set_option linter.unusedSimpArgs false
set_option maxRecDepth 100000

theorem szI1_any (a : Option Addr) (n cap : Nat) (left : Int) (w : World) (h0 : 0 ≤ left) (h1 : left ≤ 1099511627776) (hn : n ≤ maxLen) :
    Calls Tryz.prog 98 #[.slice a n cap, .int .i64 left] w fun e w' => e = .returned (.int .i64 (if left - n < 0 then -1 else left - n)) ∧ w' = w := by
  unfold maxLen at hn
  by_cases h : left - n < 0
  · rw [if_pos h]
    have hd : decide (left - (n : Int) < 0) = true := decide_eq_true h
    go_enter Tryz.func98, Tryz.ntmps98
    go_wp2
    go_ret
    exact ⟨rfl, rfl⟩
  · rw [if_neg h]
    have hd : decide (left - (n : Int) < 0) = false := decide_eq_false h
    go_enter Tryz.func98, Tryz.ntmps98
    go_wp2
    go_ret
    exact ⟨rfl, rfl⟩

set_option maxHeartbeats 4000000 in
theorem szEntry_any (e : EnS) (x : En) (L0 : Int) (w : World) (o : enK.Ok w e x) (h0 : 0 ≤ L0) (h1 : L0 ≤ 1048576) :
    Calls Tryz.prog 68 #[.agg (evals e x), .int .i64 L0] w fun r w' => (∃ q : Int, r = .returned (.int .i64 q) ∧ -1 ≤ q ∧ q ≤ L0 ∧ (0 ≤ q → EnSm x)) ∧ Below w.heap.size w w' := by
  have k0 := SBlk.new w (evals e x) 113
  have k2 := below_alloc w (.cells (evals e x) 113)
  obtain ⟨W0, e0⟩ : ∃ W, w.alloc (.cells (evals e x) 113) = W := ⟨_, rfl⟩
  rw [e0] at k0 k2
  replace o := enK.below o k2 (Nat.le_refl _)
  have D1 := hide (szHeader_any e.1 x.1 L0 W0 (hd_ok o.1) (hd_max o.1) h0 h1)
  have l2 : e.2.1.n ≤ maxLen := Nat.le_trans (BOk.room o.2.1) (BOk.max o.2.1)
  have l3 : e.2.2.2.n ≤ maxLen := Nat.le_trans (IOk.room o.2.2.2) (IOk.max o.2.2.2)
  have z2 : x.2.1.length = e.2.1.n := (BOk.row o.2.1).1
  have z3 : x.2.2.2.length = e.2.2.2.n := (IOk.row o.2.2.2).1
  have HZ := hide (And.intro z2 z3)
  have HLa : Hid ((Instr.loadAt 39 (.pointer (some ⟨w.heap.size, 0, none⟩))).run Tryz.prog W0 = .ok (.agg (hvals e.1 x.1)) W0) :=
    ld_run (hvals e.1 x.1).toList 39 _ (fun j v hv => by rw [Nat.zero_add, k0.cell]; exact ev_hd e x j v hv) Tryz.underlying39 rfl (by kernel_rfl)
  have HK0 := hide (fun (W : World) (hb : Below W0.heap.size W0 W) => k0.below hb k0.lt)
  have HB0 := hide k2
  have E0 := hide e0
  clear e0 o k0 k2 z2 z3
  generalize hvals e.1 x.1 = V1 at HLa D1
  unfold evals at E0 HK0 ⊢
  go_enter Tryz.func68, Tryz.ntmps68
  go_upto_region 1 with fail
  rw [unhide E0]
  clear E0
  go_wp2_with (refine wpList_load_eq rfl 39 _ rfl _ _ rfl (unhide HLa) ?_)
  refine (unhide D1).mono ?_
  rintro r w1 ⟨⟨L1, rfl, a1, a2, a3⟩, b1⟩
  have B1 := hide ((unhide HB0).trans (b1.mono (unhide HB0).size))
  have k1 := (unhide HK0) w1 b1
  have x1 := k1.cell 11
  have x2 := k1.cell 13
  simp only [List.getElem?_cons_zero, List.getElem?_cons_succ] at x1 x2
  clear b1 k1 HK0 D1 HLa
  by_cases n1 : L1 < 0
  · have d1 : decide (L1 < 0) = true := decide_eq_true n1
    go_wp2_with fail
    go_ret
    exact ⟨⟨-1, rfl, by omega, by omega, fun h => by omega⟩, unhide B1⟩
  have d1 : decide (L1 < 0) = false := decide_eq_false n1
  have S1 := a3 (by omega)
  have HS1 := hide S1
  obtain ⟨L2, e2⟩ : ∃ L : Int, L = if L1 - e.2.1.n < 0 then -1 else L1 - e.2.1.n := ⟨_, rfl⟩
  have D2 := hide (szB1_to e.2.1.a e.2.1.n e.2.1.c L1 L2 w1 (by omega) (by omega) l2 e2)
  have E2 := hide e2
  clear e2 S1 a3
  go_wp2_with fail
  refine (unhide D2).mono ?_
  rintro r w2 ⟨rfl, rfl⟩
  by_cases n2 : L2 < 0
  · have d2 : decide (L2 < 0) = true := decide_eq_true n2
    go_wp2_with fail
    go_ret
    exact ⟨⟨-1, rfl, by omega, by omega, fun h => by omega⟩, unhide B1⟩
  have d2 : decide (L2 < 0) = false := decide_eq_false n2
  have f2 : L2 = L1 - e.2.1.n := by
    have := unhide E2
    split at this <;> omega
  have F2 := hide f2
  have g2 : L2 ≤ L1 := by omega
  have D3 := hide (szI1_any e.2.2.2.a e.2.2.2.n e.2.2.2.c L2 w2 (by omega) (by omega) l3)
  obtain ⟨L3, e3⟩ : ∃ L : Int, L = if L2 - e.2.2.2.n < 0 then -1 else L2 - e.2.2.2.n := ⟨_, rfl⟩
  rw [← e3] at D3
  have E3 := hide e3
  clear e3 f2 D2
  go_wp2_with fail
  refine (unhide D3).mono ?_
  rintro r w3 ⟨rfl, rfl⟩
  by_cases n3 : L3 < 0
  · have d3 : decide (L3 < 0) = true := decide_eq_true n3
    go_wp2_with fail
    go_ret
    exact ⟨⟨-1, rfl, by omega, by omega, fun h => by omega⟩, unhide B1⟩
  have d3 : decide (L3 < 0) = false := decide_eq_false n3
  go_wp2_with fail
  go_ret
  have f2 := unhide F2
  have f3 : L3 = L2 - e.2.2.2.n := by
    have := unhide E3
    split at this <;> omega
  obtain ⟨z2, z3⟩ := unhide HZ
  exact ⟨⟨L3, rfl, by omega, by omega, fun _ => ⟨unhide HS1, by omega, by omega⟩⟩, unhide B1⟩

set_option maxHeartbeats 4000000 in
theorem szEntryS_any (s : Sl) (xs : List En) (L0 : Int) (w : World) (o : RowOk enK w s xs) (h0 : 0 ≤ L0) (h1 : L0 ≤ 1048576) :
    Calls Tryz.prog 33 #[.slice s.a s.n s.c, .int .i64 L0] w fun r w' => (∃ q : Int, r = .returned (.int .i64 q) ∧ -1 ≤ q ∧ q ≤ L0 ∧ (0 ≤ q → xs.length ≤ 1048576 ∧ ∀ y ∈ xs, EnSm y)) ∧ Below w.heap.size w w' := by
  obtain ⟨a, n, c⟩ := s
  have hn : n = xs.length := o.len
  have hl : n ≤ maxLen := Nat.le_trans o.room o.max
  unfold maxLen at hl
  by_cases hs : L0 - n < 0
  · have hd : decide (L0 - (n : Int) < 0) = true := decide_eq_true hs
    clear o
    go_enter Tryz.func33, Tryz.ntmps33
    go_wp2_with fail
    go_ret
    exact ⟨⟨-1, rfl, by omega, by omega, fun h => by omega⟩, Below.refl _ _⟩
  · rcases Nat.eq_zero_or_pos n with hz | hp
    · subst hz
      obtain rfl : xs = [] := List.length_eq_zero_iff.1 hn.symm
      clear o hn hl hs
      have hd : decide (L0 < 0) = false := decide_eq_false (by omega)
      go_enter Tryz.func33, Tryz.ntmps33
      go_wp2_with fail
      refine wp_loop_rounds 1 ?_
      rw [rounds_succ]
      go_wp2_with fail
      go_ret
      exact ⟨⟨L0, rfl, by omega, by omega, fun h => ⟨by simp, fun y hy => by simp at hy⟩⟩, Below.refl _ _⟩
    · have hd : decide (L0 - (n : Int) < 0) = false := decide_eq_false hs
      obtain ⟨b, off, rfl, hb, hc⟩ := o.pos hp
      have HC := hide (fun (W : World) (hbl : Below w.heap.size w W) (i : Nat) (x : En) (hx : xs[i]? = some x) => match hc i x hx with | ⟨e, c, o⟩ => (⟨e, fun j v hv => (hbl.cell (p := ⟨b, off + i * 14 + j, none⟩) hb).trans (c j v hv), enK.below o hbl (Nat.le_refl _)⟩ : ∃ e : EnS, (∀ j v, (evals e x).toList[j]? = some v → W.cell? ⟨b, off + i * 14 + j, none⟩ = some v) ∧ enK.Ok W e x))
      have HL := hide hn
      clear o hc hn
      go_enter Tryz.func33, Tryz.ntmps33
      go_wp2_with fail
      go_loopw [1, 5] (fun q i wr => ∃ (k : Nat) (L : Int), k ≤ n ∧ i = .int .i64 k ∧ q = .int .i64 L ∧ 0 ≤ L ∧ L ≤ L0 - n ∧ (∀ (j : Nat) y, j < k → xs[j]? = some y → EnSm y) ∧ Below w.heap.size w wr) (fun _ i _ => n - (intOf i).toNat)
      case atStart => exact ⟨0, _, Nat.zero_le _, rfl, rfl, by omega, by omega, fun j y hj => absurd hj (Nat.not_lt_zero _), Below.refl _ _⟩
      case round =>
        obtain ⟨k, L, hk, rfl, rfl, hL0, hL1, hall, hbr⟩ := hrel
        have HA := hide hall
        clear hall
        by_cases hlt : k < n
        · have hkx : k < xs.length := by rw [← unhide HL]; exact hlt
          obtain ⟨x, hx⟩ : ∃ x, xs[k]? = some x := ⟨_, List.getElem?_eq_getElem hkx⟩
          obtain ⟨e, c, o⟩ := (unhide HC) wr hbr k x hx
          have HLD : Hid (∀ W, Below wr.heap.size wr W → (Instr.loadAt 113 (.pointer (some ⟨b, off + k * 14, none⟩))).run Tryz.prog W = .ok (.agg (evals e x)) W) := fun W hbl =>
            ld_run (evals e x).toList 113 _ (fun j v hv => (hbl.cell (p := ⟨b, off + k * 14 + j, none⟩) (lt_of_cell (c j v hv))).trans (c j v hv)) Tryz.underlying113 rfl (by kernel_rfl)
          have HD := hide (fun (W : World) (hbl : Below wr.heap.size wr W) => szEntry_any e x L W (enK.below o hbl (Nat.le_refl _)) hL0 (by omega))
          have HX := hide hx
          have HB := hide hbr
          have i1 : (0 : Int) ≤ (k : Int) := by omega
          have i2 : (k : Int) < (n : Int) := by omega
          clear c o hbr hx hkx
          generalize evals e x = V at HLD HD
          go_wp2_with (refine wpList_load_eq rfl 113 _ rfl _ _ rfl ((unhide HLD) _ (by first | exact Below.refl _ _ | exact (Below.refl _ _).drew)) ?_)
          refine ((unhide HD) _ (by first | exact Below.refl _ _ | exact (Below.refl _ _).drew)).mono ?_
          rintro r w2 ⟨⟨q, rfl, a1, a2, a3⟩, b2⟩
          have b2' : Below wr.heap.size wr w2 := by first | exact b2 | exact Below.trans ((Below.refl _ _).drew) b2
          have HB2 := hide ((unhide HB).trans (b2'.mono (unhide HB).size))
          have HA3 := hide a3
          clear b2 b2' a3
          by_cases hq : q < 0
          · have dq : decide (q < 0) = true := decide_eq_true hq
            go_wp2_with fail
            go_ret
            exact ⟨⟨-1, rfl, by omega, by omega, fun h => by omega⟩, unhide HB2⟩
          · have dq : decide (q < 0) = false := decide_eq_false hq
            go_wp2_with fail
            go_roundw
            case rel =>
              refine ⟨k + 1, q, by omega, by go_num, rfl, by omega, by omega, fun j y hj hy => ?_, unhide HB2⟩
              by_cases e : j = k
              · subst e
                obtain rfl : x = y := Option.some.inj ((unhide HX).symm.trans hy)
                exact (unhide HA3) (by omega)
              · exact (unhide HA) j y (by omega) hy
            case measure => simp [intOf]; omega
        · obtain rfl : k = n := by omega
          have HB := hide hbr
          clear hbr
          go_wp2_with fail
          go_ret
          refine ⟨⟨L, rfl, by omega, by omega, fun _ => ⟨by have := unhide HL; omega, fun y hy => ?_⟩⟩, unhide HB⟩
          obtain ⟨j, hj⟩ := List.getElem?_of_mem hy
          have hjl := (List.getElem?_eq_some_iff.1 hj).1
          exact (unhide HA) j y (by have := unhide HL; omega) hj

set_option maxHeartbeats 4000000 in
theorem szStore_any (s : Sl) (x : St) (L0 : Int) (w : World) (o : RowOk enK w s x.2) (h0 : 0 ≤ L0) (h1 : L0 ≤ 1048576) :
    Calls Tryz.prog 7 #[.agg (tvals s x), .int .i64 L0] w fun r w' => (∃ q : Int, r = .returned (.int .i64 q) ∧ -1 ≤ q ∧ q ≤ L0 ∧ (0 ≤ q → StSm x)) ∧ Below w.heap.size w w' := by
  have k0 := SBlk.new w (tvals s x) 26
  have k2 := below_alloc w (.cells (tvals s x) 26)
  obtain ⟨W0, e0⟩ : ∃ W, w.alloc (.cells (tvals s x) 26) = W := ⟨_, rfl⟩
  rw [e0] at k0 k2
  have D1 := hide (szEntryS_any s x.2 L0 W0 (RowOk.below o k2 (Nat.le_refl _)) h0 h1)
  have HB0 := hide k2
  unfold tvals at k0 e0 ⊢
  have x1 := k0.cell 3
  simp only [List.getElem?_cons_zero, List.getElem?_cons_succ] at x1
  have E0 := hide e0
  clear e0 o k0 k2
  go_enter Tryz.func7, Tryz.ntmps7
  go_upto_region 1 with fail
  rw [unhide E0]
  clear E0
  go_wp2_with fail
  refine (unhide D1).mono ?_
  rintro r w1 ⟨⟨L1, rfl, a1, a2, a3⟩, b1⟩
  have B1 := hide ((unhide HB0).trans (b1.mono (unhide HB0).size))
  have HA3 := hide a3
  clear b1 D1 a3 x1
  by_cases n1 : L1 < 0
  · have d1 : decide (L1 < 0) = true := decide_eq_true n1
    go_wp2_with fail
    go_ret
    exact ⟨⟨-1, rfl, by omega, by omega, fun h => by omega⟩, unhide B1⟩
  have d1 : decide (L1 < 0) = false := decide_eq_false n1
  go_wp2_with fail
  go_ret
  refine ⟨⟨L1, rfl, by omega, by omega, fun h => ?_⟩, unhide B1⟩
  obtain ⟨q1, q2⟩ := (unhide HA3) h
  exact ⟨q1, q2⟩

end Go.Proofs.YtioifgbnninmjaaGreatDoor
