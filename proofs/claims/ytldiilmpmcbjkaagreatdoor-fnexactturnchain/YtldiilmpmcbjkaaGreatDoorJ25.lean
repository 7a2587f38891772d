/- What is proved here: what the model's l5Hash and l5SealHash answer for a header without a fault: the hash of its bytes in new memory. -/
import Derived.Test.YtldiilmpmcbjkaaGreatDoorJ12
import Derived.Test.YtldiilmpmcbjkaaGreatDoorJ20
import Derived.Test.YtldiilmpmcbjkaaGreatDoorJ24
import Derived.Test.YtldiilmpmcbjkaaGreatDoorJ6
import Derived.Test.YtldiilmpmcbjkaaGreatDoorJ19
import Derived.Test.YtldiilmpmcbjkaaGreatDoorJ16
import Derived.Test.YtldiilmpmcbjkaaGreatDoorJ14
import Derived.Shelf.RegionOpenPlain
import Derived.Deep.AppendLies
namespace Go.Proofs.YtldiilmpmcbjkaaGreatDoor
open Go.RowKit
set_option linter.unusedVariables false
set_option maxRecDepth 100000

set_option maxRecDepth 100000 in
set_option maxHeartbeats 8000000 in
theorem l5Hash_any (x : HS) (h : Hd) (w : World) (o : HOk w x h) (nn : HNil w x) (hf : hdFlt h = 0) :
    Calls Tryz.prog 66 #[.agg (hvals x h)] w fun e w' => ∃ d c, e = .returned (.slice (some ⟨d, 0, none⟩) 32 c) ∧
      w'.ownsRow w.heap.size 5 1 (.slice (some ⟨d, 0, none⟩) 32 c) 32 ((kcBytes (packL (noK h))).map (Value.int .u8)) ∧ Below w.heap.size w w' := by
  have hg := hdFlt_noK hf
  have kb := SBlk.new w (hvals x h) 68
  have bb := below_alloc w (.cells (hvals x h) 68)
  obtain ⟨W0, eb⟩ : ∃ W0, w.alloc (.cells (hvals x h) 68) = W0 := ⟨_, rfl⟩
  rw [eb] at kb bb
  have kb3 : SBlk (W0.setCell ⟨w.heap.size, 10, none⟩ (.slice none 0 0)) w.heap.size (hvals (xNoK x) (noK h)).toList 68 := kb.set 10 _
  have b3 := bb.setCell (p := ⟨w.heap.size, 10, none⟩) (Nat.le_refl _) (.slice none 0 0)
  have fz : W0.frozen? ⟨w.heap.size, 10, none⟩ = false := kb.free 10
  have cz := kb.cell 10
  simp only [hvals, List.getElem?_cons_zero, List.getElem?_cons_succ] at cz
  obtain ⟨W3, e3⟩ : ∃ W3, W0.setCell ⟨w.heap.size, 10, none⟩ (.slice none 0 0) = W3 := ⟨_, rfl⟩
  rw [e3] at kb3 b3
  have ok := (o.below b3 (Nat.le_refl _)).noK
  have D1 := hide (l5Pack_any w.heap.size (xNoK x) (noK h) _ W3 kb3 ok (nn.below b3 (Nat.le_refl _)).noK (good_of hg))
  have HRG := hide (packL_rng hg ok)
  have hl := packL_le hg
  have hpos := packL_pos (noK h)
  have HKC : Hid (∀ (W' : World) (g c : Nat), BRow W' (some ⟨g, 0, none⟩) (packL (noK h)).length (packL (noK h)) → Calls Tryz.prog 81 #[.slice (some ⟨g, 0, none⟩) (packL (noK h)).length c] W' fun e w' => ∃ d c', e = .returned (.slice (some ⟨d, 0, none⟩) 32 c') ∧ w'.ownsRow W'.heap.size 5 1 (.slice (some ⟨d, 0, none⟩) 32 c') 32 ((kcBytes (packL (noK h))).map (Value.int .u8)) ∧ Below W'.heap.size W' w') := fun W' g c hr => by
    have K := l2Keccak_any (some ⟨g, 0, none⟩) (packL (noK h)).length c (packL (noK h)) W' hr (fun e => by cases e) hl
    have e : kcBytes (packL (noK h)) = hashOf (spAt (padB (packL (noK h))) (padLen (packL (noK h)).length / 136)) := if_neg (by omega)
    rw [e]
    exact K
  clear o nn ok kb kb3 bb hf hg
  generalize kcBytes (packL (noK h)) = KB at HKC ⊢
  generalize packL (noK h) = PL at D1 HKC HRG hl hpos
  have HB3 := hide b3
  have E3 := hide e3
  have EB := hide eb
  clear b3 e3 eb
  unfold hvals at EB ⊢
  go_enter Tryz.func66, Tryz.ntmps66
  go_upto_region 1 with fail
  rw [unhide EB]
  clear EB
  go_upto_region 2 with fail
  rw [unhide E3]
  clear E3
  go_wp2_with fail
  refine (unhide D1).mono ?_
  rintro e w4 ⟨a4, c4, rfl, o4, b4⟩
  obtain ⟨g4, c', he⟩ := own_some o4 hpos
  simp only [Value.slice.injEq] at he
  obtain ⟨rfl, -, rfl⟩ := he
  have row4 := BRow.own o4 (unhide HRG)
  have HB4 := hide ((unhide HB3).trans (b4.mono (unhide HB3).size))
  clear b4 o4 fz cz
  go_wp2_with fail
  refine ((unhide HKC) _ g4 c4 row4).mono ?_
  rintro e w5 ⟨d5, c5, rfl, o5, b5⟩
  have hwz : w.heap.size ≤ w4.heap.size := (unhide HB4).size
  have HB5 := hide ((unhide HB4).trans (b5.mono hwz))
  go_wp2_with fail
  go_ret
  exact ⟨d5, c5, rfl, ownsRow_base o5 hwz, unhide HB5⟩

end Go.Proofs.YtldiilmpmcbjkaaGreatDoor

/- What is proved here: the model's fault of an entry (l10One). -/
namespace Go.Proofs.YtldiilmpmcbjkaaGreatDoor
open Go.RowKit
set_option linter.unusedVariables false
set_option linter.unusedSimpArgs false
set_option maxRecDepth 100000

set_option maxHeartbeats 8000000 in
theorem l10One_any (s : Sl) (xs : List En) (i : Nat) (x : En) (w : World) (o : RowOk enK w s xs) (hx : xs[i]? = some x) (al : AllOk (xs.take i)) (m : EnSm x) :
    Calls Tryz.prog 49 #[.slice s.a s.n s.c, .int .i64 i] w fun r w' => r = .returned (.int .i64 (enFlt (xs.take i) x)) ∧ Below w.heap.size w w' := by
  obtain ⟨sa, n, cp⟩ := s
  have hlen : n = xs.length := o.len
  have hmx : n ≤ maxLen := Nat.le_trans o.room o.max
  unfold maxLen at hmx
  have hi := (List.getElem?_eq_some_iff.1 hx).1
  obtain ⟨b, off, ha, hent⟩ := o.ent (by show 0 < n; omega)
  have ha' : sa = some ⟨b, off, none⟩ := ha
  subst ha'
  obtain ⟨e, h⟩ := hent i x hx
  have hd : hdK.Ok w e.1 x.1 := h.2.1
  have hz : BOk w e.2.1 x.2.1 := h.2.2.1
  have tl : (xs.take i).length = i := by simp; omega
  have HLD : Hid (∀ W, Below w.heap.size w W → (Instr.loadAt 68 (.pointer (some ⟨b, off + i * 14, none⟩))).run Tryz.prog W = .ok (.agg (hvals e.1 x.1)) W) := fun W hb =>
    ld_run (hvals e.1 x.1).toList 68 _ (fun j v hv => (h.below hb (Nat.le_refl _)).1 j v (ev_hd e x j v hv)) Tryz.underlying68 rfl (by kernel_rfl)
  have HC := hide (fun (W : World) (hb : Below w.heap.size w W) => And.intro ((h.below hb (Nat.le_refl _)).1 11 _ rfl) (And.intro ((h.below hb (Nat.le_refl _)).1 12 _ rfl) (And.intro ((h.below hb (Nat.le_refl _)).1 0 _ rfl) ((h.below hb (Nat.le_refl _)).1 1 _ rfl))))
  have C1 := hide (l5Fault_at b (off + i * 14) e.1 x.1 w (fun j v hv => h.1 j v (ev_hd e x j v hv)) (hd_ok hd) m.h)
  have C2 := hide (fun (hf : hdFlt x.1 = 0) (W : World) (hb : Below w.heap.size w W) => l5Hash_any e.1 x.1 W ((hd_ok hd).below hb (Nat.le_refl _)) ((hd_nil hd).below hb (Nat.le_refl _)) hf)
  have C3 : Hid (∀ (W : World), Below w.heap.size w W → ∀ (a : Option Addr) (n c : Nat), BRow W a n (hsBytes x.1) → Calls Tryz.prog 65 #[.slice e.2.1.a e.2.1.n e.2.1.c, .slice a n c] W fun r w' => r = .returned (.bool (decide (x.2.1 = hsBytes x.1))) ∧ w' = W) := fun W hb a n c hr => by
    have := l1Same_any e.2.1.a a e.2.1.n e.2.1.c n c x.2.1 (hsBytes x.1) W (hz.row.below hb (Nat.le_refl _)) hr
    rwa [strEq_dec hz.row.2.1 hr.2.1] at this
  have HRG := hide (hs_range (hd_ok hd))
  have HHS : Hid (hdFlt x.1 = 0 → kcBytes (packL (noK x.1)) = hsBytes x.1) := fun hf => (if_pos hf).symm
  have C4 := hide (fun (W : World) (hb : Below w.heap.size w W) => l10Find_any ⟨some ⟨b, off, none⟩, n, cp⟩ e.2.1 xs x.2.1 W (RowOk.below o hb (Nat.le_refl _)) (bytesK.below hz hb (Nat.le_refl _)))
  have HFA := hide (fnd_ahead hx)
  have HFR := hide (fnd_range xs x.2.1)
  have HUI := hide (fun (W : World) => in_any x.2.2.1 0 ((i : Int) - 1) W)
  have HUP : Hid (upOk (xs.take i).length x.2.2.1 = if i = 0 then decide (x.2.2.1 = -1) else within x.2.2.1 0 ((i : Int) - 1)) := by show _ = _; rw [tl]; rfl
  have CBH : Hid (∀ u : Nat, u < i → x.2.2.1 = (u : Int) → ∃ y ey, enAt (xs.take i) x.2.2.1 = some y ∧ EAt w b (off + u * 14) ey y ∧ 0 ≤ y.1.n1 ∧ y.1.n1 ≤ 1099511627776 ∧ BOk w ey.2.1 y.2.1) := fun u hu hup => by
    obtain ⟨y, hy⟩ : ∃ y, xs[u]? = some y := ⟨_, List.getElem?_eq_getElem (by omega)⟩
    have hyt : (xs.take i)[u]? = some y := by rw [List.getElem?_take, if_pos hu]; exact hy
    obtain ⟨ey, hey⟩ := hent u y hy
    have hn := (hd_num (al y (List.mem_of_getElem? hyt)).1).1
    refine ⟨y, ey, ?_, hey, hn.1, hn.2, hey.2.2.1⟩
    unfold enAt
    rw [hup, if_neg (by omega)]
    simpa using hyt
  have C8 := hide (fun (hf : hdFlt x.1 = 0) (hu : upOk i x.2.2.1 = true) (W : World) (hb : Below w.heap.size w W) => l10Total_any ⟨some ⟨b, off, none⟩, n, cp⟩ xs i x W (RowOk.below o hb (Nat.le_refl _)) hx hf hu al m)
  have HPB := hide (And.intro hd hz)
  have HE : Hid (enFlt (xs.take i) x = _) := show enFlt (xs.take i) x = _ by unfold enFlt; exact rfl
  generalize enFlt (xs.take i) x = R at HE ⊢
  generalize hvals e.1 x.1 = Vh at HLD C2
  have HQ : Hid (∃ q, q = hdFlt x.1) := ⟨_, rfl⟩
  have i1 : (0 : Int) ≤ (i : Int) := by omega
  have i2 : (i : Int) < (n : Int) := by omega
  have HLN := hide (And.intro hlen (And.intro hx hi))
  clear o h al m hd hz ha hent hlen hx hi tl HQ
  go_enter Tryz.func49, Tryz.ntmps49
  go_wp2_with fail
  refine (unhide C1).mono ?_
  rintro r w1 ⟨rfl, n1, rfl⟩
  by_cases hq : hdFlt x.1 = 0
  case neg =>
    have hne : (hdFlt x.1 != 0) = true := by simp [hq]
    have HE1 := hide ((unhide HE).trans (if_neg hq))
    generalize hdFlt x.1 = q0 at HE1 hne ⊢
    go_wp2_with fail
    go_ret
    exact ⟨ret_int (unhide HE1).symm, below_drewN (Below.refl _ _) _⟩
  have HE1 := hide ((unhide HE).trans (if_pos hq))
  rw [hq]
  have HHS' := hide ((unhide HHS) hq)
  have b1 : Below w.heap.size w (w.drewN n1) := below_drewN (Below.refl _ _) _
  generalize w.drewN n1 = w1 at b1 ⊢
  have C2' := hide ((unhide C2) hq)
  rw [unhide HHS'] at C2'
  have C8' := hide ((unhide C8) hq)
  obtain ⟨t11, t12, t0, t1⟩ := (unhide HC) w1 b1
  clear HE HHS HHS' C2 C8 C1
  by_cases hs : x.2.1 = hsBytes x.1
  · have HE2 := hide ((unhide HE1).trans (if_pos hs))
    have C3' := C3
    rw [decide_eq_true hs] at C3'
    clear C3 HE1 hs
    go_upto_region 5 with fail
    refine wp_region_held_drew (S := (fun W => Below w.heap.size w W ∧ W.cell? ⟨b, off + i * 14 + 11, none⟩ = some (.slice e.2.1.a e.2.1.n e.2.1.c))) (by kernel_rfl) (⟨b1.drew, ((unhide HC) _ b1.drew).1⟩) (fun hHeld => ?_)
    refine wpAnyH_take (i := 0) (oi := _) (v := ?_) rfl (by kernel_rfl) (by kernel_rfl) (by kernel_rfl) (fun _ _ _ h => h) (Or.inl ⟨by rfl, ?_⟩) (by assumption) ?_
    rotate_left
    · ((intro wq hSw; (try dsimp only at hSw); go_simp) <;> with_reducible rfl)
    try dsimp only
    refine wpAnyH_take (i := 1) (oi := _) (v := ?_) rfl (by kernel_rfl) (by kernel_rfl) (by kernel_rfl) (fun _ _ _ h => h) (Or.inl ⟨by rfl, ?_⟩) (by assumption) ?_
    rotate_left
    · ((intro wq hSw; (try dsimp only at hSw); go_simp) <;> with_reducible rfl)
    try dsimp only
    refine wpAnyH_take (i := 2) (oi := _) (v := ?_) rfl (by kernel_rfl) (by kernel_rfl) (by kernel_rfl) (fun _ _ _ h => h) (Or.inl ⟨by rfl, ?_⟩) (by assumption) ?_
    rotate_left
    · ((intro wq hSw; (try dsimp only at hSw); go_simp) <;> with_reducible rfl)
    try dsimp only
    refine wpAnyH_take (i := 3) (oi := _) (v := ?_) rfl (by kernel_rfl) (by kernel_rfl) (by kernel_rfl) (fun _ _ _ h => h) (Or.inl ⟨by rfl, ?_⟩) (by assumption) ?_
    rotate_left
    · ((intro wq hSw; (try dsimp only at hSw); go_simp) <;> with_reducible rfl)
    try dsimp only
    refine wpAnyH_take (i := 4) (oi := _) (v := ?_) rfl (by kernel_rfl) (by kernel_rfl) (by kernel_rfl) (fun _ _ _ h => h) (Or.inl ⟨by rfl, ?_⟩) (by assumption) ?_
    rotate_left
    · ((intro wq hSw; (try dsimp only at hSw); go_simp) <;> with_reducible rfl)
    try dsimp only
    refine wpAnyH_take (i := 5) (oi := _) (v := ?_) rfl (by kernel_rfl) (by kernel_rfl) (by kernel_rfl) (fun _ _ _ h => h) (Or.inl ⟨by rfl, ?_⟩) (by assumption) ?_
    rotate_left
    · ((intro wq hSw; (try dsimp only at hSw); go_simp) <;> with_reducible rfl)
    try dsimp only
    refine wpAnyH_take (i := 6) (oi := _) (v := ?_) rfl (by kernel_rfl) (by kernel_rfl) (by kernel_rfl) (fun _ _ _ h => h) (Or.inl ⟨by rfl, ?_⟩) (by assumption) ?_
    rotate_left
    · ((intro wq hSw; (try dsimp only at hSw); go_simp) <;> with_reducible rfl)
    try dsimp only
    refine wpAnyH_take (i := 7) (oi := _) (v := .agg Vh) rfl (by kernel_rfl) (by kernel_rfl) (by kernel_rfl) (fun _ _ _ h => h) (Or.inl ⟨by rfl, ?_⟩) (by assumption) ?_
    · (intro wq hSw; (try dsimp only at hSw); refine exec_load rfl ?_ ((unhide HLD) wq hSw.1); go_simp)
    try dsimp only
    refine wpAnyH_ready (rs := [8]) (by kernel_rfl) (by simp) ?_
    refine AllReadyH.cons (o := _) rfl (fun K hK => ?_) AllReadyH.nil
    go_simp
    go_at_call 66
    refine ((unhide C2') _ hHeld.1).mono ?_
    rintro r w2 ⟨d2, c2, rfl, o2, b2⟩
    refine hK.out _ _ (⟨hHeld.1.trans (b2.mono hHeld.1.size), ((unhide HC) _ (hHeld.1.trans (b2.mono hHeld.1.size))).1⟩) (fun hHeld => ?_)
    clear hK K
    try dsimp only
    refine wpAnyH_ready (rs := [9]) (by kernel_rfl) (by simp) ?_
    refine AllReadyH.cons (o := _) rfl (fun K hK => ?_) AllReadyH.nil
    go_simp
    go_at_call 65
    refine ((unhide C3') _ hHeld.1 _ _ _ (BRow.own2 o2 (unhide HRG))).mono ?_
    rintro r w3 ⟨rfl, rfl⟩
    refine hK.out _ _ (hHeld) (fun hHeld => ?_)
    clear hK K
    try dsimp only
    refine wpAnyH_take (i := 10) (oi := _) (v := ?_) rfl (by kernel_rfl) (by kernel_rfl) (by kernel_rfl) (fun _ _ _ h => h) (Or.inl ⟨by rfl, ?_⟩) (by assumption) ?_
    rotate_left
    · ((intro wq hSw; (try dsimp only at hSw); go_simp) <;> with_reducible rfl)
    try dsimp only
    refine wpAnyH_done (by kernel_rfl) ?_ _
    have b3 := hHeld.1
    clear b1 b2 hHeld o2 t11 t12 t0 t1
    obtain ⟨t11, t12, t0, t1⟩ := (unhide HC) _ b3
    have B3 := hide b3
    have D4 := hide ((unhide C4) _ b3)
    have hwi : IntKind.i64.wrap (i : Int) = (i : Int) := by rw [IntKind.wrap_i64]; omega
    clear C4 C2' C3' b3
    go_wp2_with fail
    refine (unhide D4).mono ?_
    rintro r w4 ⟨rfl, b4⟩
    have b4' := (unhide B3).trans (b4.mono (unhide B3).size)
    have B4 := hide b4'
    clear b4 t11 t12 t0 t1 D4 B3
    obtain ⟨t11, t12, t0, t1⟩ := (unhide HC) _ b4'
    clear b4'
    by_cases hfp : fnd (xs.take i) x.2.1 = -1
    case neg =>
      have HE3 := hide ((unhide HE2).trans (if_neg hfp))
      have hfi : fnd xs x.2.1 ≠ (i : Int) := fun q => hfp ((unhide HFA).1 q)
      have hne : (fnd xs x.2.1 != (i : Int)) = true := by simp [hfi]
      generalize fnd xs x.2.1 = fp at hne ⊢
      clear HE2 hfp hfi C8' CBH HUI HUP
      go_wp2_with fail
      go_ret
      exact ⟨ret_int (unhide HE3).symm, unhide B4⟩
    have HE3 := hide ((unhide HE2).trans (if_pos hfp))
    rw [(unhide HFA).2 hfp]
    have hne : ((i : Int) != (i : Int)) = false := by simp
    clear HE2 hfp
    by_cases h0 : i = 0
    case pos =>
      subst h0
      simp only [Nat.zero_mul, Nat.add_zero] at t11 t12 t0 t1
      have hup0 := unhide HUP
      rw [if_pos rfl] at hup0
      by_cases hup : x.2.2.1 = -1
      case neg =>
        have hu1 : (x.2.2.1 != -1) = true := by simp [hup]
        rw [decide_eq_false hup] at hup0
        have HE4 := hide ((unhide HE3).trans (if_neg (by rw [hup0]; simp)))
        clear HE3 hup hup0 HUP C8' CBH HUI
        go_wp2_with fail
        go_ret
        exact ⟨ret_int (unhide HE4).symm, unhide B4⟩
      have hu1 : (x.2.2.1 != -1) = false := by simp [hup]
      rw [decide_eq_true hup] at hup0
      have HE4 := hide ((unhide HE3).trans (if_pos hup0))
      have e1 : enAt (xs.take 0) x.2.2.1 = none := by unfold enAt; rw [if_pos hup]
      rw [e1] at HE4
      have HE5 := hide ((unhide HE4).trans (if_pos rfl))
      have D8 := hide (fun (W : World) (hb : Below w4.heap.size w4 W) => (unhide C8') (by unfold upOk; rw [if_pos rfl, decide_eq_true hup]) W ((unhide B4).trans (hb.mono (unhide B4).size)))
      rw [e1] at D8
      generalize ttOk none x = tk at D8 HE5
      clear HE3 HE4 hup hup0 HUP C8' CBH HUI e1
      cases tk
      · go_wp2_with fail
        go_quiet (fail)
        go_wp2_with fail
        refine ((unhide D8) _ (below_drewN (Below.refl _ _) _)).mono ?_
        rintro r w8 ⟨rfl, b8⟩
        have b8' : Below w4.heap.size w4 w8 := (below_drewN (Below.refl _ _) _).trans b8
        have B8 := hide ((unhide B4).trans (b8'.mono (unhide B4).size))
        clear b8'
        clear b8
        go_wp2_with fail
        go_ret
        exact ⟨ret_int (by rw [unhide HE5]; rfl), unhide B8⟩
      · go_wp2_with fail
        go_quiet (fail)
        go_wp2_with fail
        refine ((unhide D8) _ (below_drewN (Below.refl _ _) _)).mono ?_
        rintro r w8 ⟨rfl, b8⟩
        have b8' : Below w4.heap.size w4 w8 := (below_drewN (Below.refl _ _) _).trans b8
        have B8 := hide ((unhide B4).trans (b8'.mono (unhide B4).size))
        clear b8'
        clear b8
        go_wp2_with fail
        go_ret
        exact ⟨ret_int (by rw [unhide HE5]; rfl), unhide B8⟩
    have z0 : (((i : Nat) : Int) == 0) = false := by simp [h0]
    have z1 : decide ((0 : Int) < (i : Int)) = true := decide_eq_true (by omega)
    have z2 : decide (0 < i) = true := decide_eq_true (by omega)
    have hup0 := unhide HUP
    rw [if_neg h0] at hup0
    obtain ⟨j, ej⟩ : ∃ j : Int, (i : Int) - 1 = j := ⟨_, rfl⟩
    rw [ej] at hup0
    have D5 := hide (fun W => (unhide HUI) W)
    rw [ej] at D5
    have wj : IntKind.i64.wrap j = j := by rw [IntKind.wrap_i64]; omega
    have EJ := hide ej
    by_cases hup : 0 ≤ x.2.2.1 ∧ x.2.2.1 ≤ j
    case neg =>
      rw [show within x.2.2.1 0 j = false from decide_eq_false hup] at hup0
      have HE4 := hide ((unhide HE3).trans (if_neg (by rw [hup0]; simp)))
      rw [decide_eq_false hup] at D5
      clear HE3 hup hup0 HUP C8' CBH HUI
      go_wp2_with fail
      refine ((unhide D5) _).mono ?_
      rintro r w5 ⟨rfl, rfl⟩
      go_wp2_with fail
      go_ret
      exact ⟨ret_int (unhide HE4).symm, unhide B4⟩
    rw [show within x.2.2.1 0 j = true from decide_eq_true hup] at hup0
    have HE4 := hide ((unhide HE3).trans (if_pos hup0))
    rw [decide_eq_true hup] at D5
    obtain ⟨u, eu⟩ : ∃ u : Nat, x.2.2.1 = (u : Int) := ⟨x.2.2.1.toNat, by omega⟩
    obtain ⟨y, ey, e1, hat, hn0, hn1, hyz⟩ := (unhide CBH) u (by omega) eu
    rw [e1] at HE4
    have D8 := hide ((unhide C8') (by have := (unhide HUP).symm.trans hup0; unfold upOk; rw [if_neg h0]; rw [if_neg h0] at this; exact this))
    rw [e1] at D8
    have u1 : (0 : Int) ≤ (u : Int) := by omega
    have u2 : (u : Int) < (n : Int) := by omega
    rw [eu] at t12
    have hat4 := hat.below (unhide B4) (Nat.le_refl _)
    have y11 := hat4.1 11 _ rfl
    have y1 := hat4.1 1 _ rfl
    rw [eu] at D5
    have hpr : BRow w4 e.1.p.a e.1.p.n x.1.p := ((hd_ok (unhide HPB).1).p).below (unhide B4) (Nat.le_refl _)
    have hyr : BRow w4 ey.2.1.a ey.2.1.n y.2.1 := (hyz.row).below (unhide B4) (Nat.le_refl _)
    have D7 : Hid (∀ m, Calls Tryz.prog 65 #[.slice e.1.p.a e.1.p.n e.1.p.c, .slice ey.2.1.a ey.2.1.n ey.2.1.c] (w4.drewN m) fun r w' => r = .returned (.bool (decide (x.1.p = y.2.1))) ∧ w' = w4.drewN m) := fun m => by
      have := l1Same_any e.1.p.a ey.2.1.a e.1.p.n e.1.p.c ey.2.1.n ey.2.1.c x.1.p y.2.1 (w4.drewN m) (hpr.below (below_drewN (Below.refl _ _) m) (Nat.le_refl _)) (hyr.below (below_drewN (Below.refl _ _) m) (Nat.le_refl _))
      rwa [strEq_dec hpr.2.1 hyr.2.1] at this
    have hbe : bhOk (some y) x.1 = (decide (x.1.p = y.2.1) && decide (x.1.n1 = y.1.n1 + 1)) := rfl
    obtain ⟨nn, enn⟩ : ∃ q, y.1.n1 + 1 = q := ⟨_, rfl⟩
    have wnn : IntKind.i64.wrap nn = nn := by rw [IntKind.wrap_i64]; omega
    rw [enn] at hbe
    have hbn : (x.1.n1 != nn) = !(decide (x.1.n1 = nn)) := by by_cases q : x.1.n1 = nn <;> simp [q]
    generalize decide (x.1.p = y.2.1) = cp' at D7 hbe
    generalize decide (x.1.n1 = nn) = cn at hbe hbn
    rw [hbe] at HE4
    have D8' := hide (fun (W : World) (hb : Below w4.heap.size w4 W) => (unhide D8) W ((unhide B4).trans (hb.mono (unhide B4).size)))
    clear HE3 hup hup0 HUP C8' CBH HUI hat hat4 D8 hpr hyr hyz hbe HPB HFR HFA
    simp only [Nat.add_zero] at t0
    go_wp2_with fail
    refine ((unhide D5) _).mono ?_
    rintro r w5 ⟨rfl, rfl⟩
    cases cp'
    case false =>
      have HE5 := hide ((unhide HE4).trans (if_neg (by simp)))
      go_wp2_with fail
      go_quiet ((go_at_call 65; exact Calls.quiet_of_same ((unhide D7) _)))
      go_wp2_with fail
      go_ret
      exact ⟨ret_int (unhide HE5).symm, below_drewN (unhide B4) _⟩
    cases cn
    case false =>
      have HE5 := hide ((unhide HE4).trans (if_neg (by simp)))
      have hbn' : (x.1.n1 != nn) = true := hbn
      clear hbn
      go_wp2_with fail
      go_quiet ((go_at_call 65; exact Calls.quiet_of_same ((unhide D7) _)))
      go_wp2_with fail
      go_ret
      exact ⟨ret_int (unhide HE5).symm, below_drewN (unhide B4) _⟩
    have HE5 := hide ((unhide HE4).trans (if_pos (by simp)))
    have hbn' : (x.1.n1 != nn) = false := hbn
    clear hbn HE4
    go_wp2_with fail
    go_quiet ((go_at_call 65; exact Calls.quiet_of_same ((unhide D7) _)))
    generalize ttOk (some y) x = tk at D8' HE5
    cases tk
    all_goals
      go_wp2_with fail
      refine ((unhide D8') _ (below_drewN (Below.refl _ _) _)).mono ?_
      rintro r w8 ⟨rfl, b8⟩
      have b8' : Below w5.heap.size w5 w8 := (below_drewN (Below.refl _ _) _).trans b8
      have B8 := hide ((unhide B4).trans (b8'.mono (unhide B4).size))
      clear b8 b8'
      go_wp2_with fail
      go_ret
      exact ⟨ret_int (by rw [unhide HE5]; rfl), unhide B8⟩
  · have HE2 := hide ((unhide HE1).trans (if_neg hs))
    have C3' := C3
    rw [decide_eq_false hs] at C3'
    clear C3 HE1 hs
    go_upto_region 5 with fail
    refine wp_region_held_drew (S := (fun W => Below w.heap.size w W ∧ W.cell? ⟨b, off + i * 14 + 11, none⟩ = some (.slice e.2.1.a e.2.1.n e.2.1.c))) (by kernel_rfl) (⟨b1.drew, ((unhide HC) _ b1.drew).1⟩) (fun hHeld => ?_)
    refine wpAnyH_take (i := 0) (oi := _) (v := ?_) rfl (by kernel_rfl) (by kernel_rfl) (by kernel_rfl) (fun _ _ _ h => h) (Or.inl ⟨by rfl, ?_⟩) (by assumption) ?_
    rotate_left
    · ((intro wq hSw; (try dsimp only at hSw); go_simp) <;> with_reducible rfl)
    try dsimp only
    refine wpAnyH_take (i := 1) (oi := _) (v := ?_) rfl (by kernel_rfl) (by kernel_rfl) (by kernel_rfl) (fun _ _ _ h => h) (Or.inl ⟨by rfl, ?_⟩) (by assumption) ?_
    rotate_left
    · ((intro wq hSw; (try dsimp only at hSw); go_simp) <;> with_reducible rfl)
    try dsimp only
    refine wpAnyH_take (i := 2) (oi := _) (v := ?_) rfl (by kernel_rfl) (by kernel_rfl) (by kernel_rfl) (fun _ _ _ h => h) (Or.inl ⟨by rfl, ?_⟩) (by assumption) ?_
    rotate_left
    · ((intro wq hSw; (try dsimp only at hSw); go_simp) <;> with_reducible rfl)
    try dsimp only
    refine wpAnyH_take (i := 3) (oi := _) (v := ?_) rfl (by kernel_rfl) (by kernel_rfl) (by kernel_rfl) (fun _ _ _ h => h) (Or.inl ⟨by rfl, ?_⟩) (by assumption) ?_
    rotate_left
    · ((intro wq hSw; (try dsimp only at hSw); go_simp) <;> with_reducible rfl)
    try dsimp only
    refine wpAnyH_take (i := 4) (oi := _) (v := ?_) rfl (by kernel_rfl) (by kernel_rfl) (by kernel_rfl) (fun _ _ _ h => h) (Or.inl ⟨by rfl, ?_⟩) (by assumption) ?_
    rotate_left
    · ((intro wq hSw; (try dsimp only at hSw); go_simp) <;> with_reducible rfl)
    try dsimp only
    refine wpAnyH_take (i := 5) (oi := _) (v := ?_) rfl (by kernel_rfl) (by kernel_rfl) (by kernel_rfl) (fun _ _ _ h => h) (Or.inl ⟨by rfl, ?_⟩) (by assumption) ?_
    rotate_left
    · ((intro wq hSw; (try dsimp only at hSw); go_simp) <;> with_reducible rfl)
    try dsimp only
    refine wpAnyH_take (i := 6) (oi := _) (v := ?_) rfl (by kernel_rfl) (by kernel_rfl) (by kernel_rfl) (fun _ _ _ h => h) (Or.inl ⟨by rfl, ?_⟩) (by assumption) ?_
    rotate_left
    · ((intro wq hSw; (try dsimp only at hSw); go_simp) <;> with_reducible rfl)
    try dsimp only
    refine wpAnyH_take (i := 7) (oi := _) (v := .agg Vh) rfl (by kernel_rfl) (by kernel_rfl) (by kernel_rfl) (fun _ _ _ h => h) (Or.inl ⟨by rfl, ?_⟩) (by assumption) ?_
    · (intro wq hSw; (try dsimp only at hSw); refine exec_load rfl ?_ ((unhide HLD) wq hSw.1); go_simp)
    try dsimp only
    refine wpAnyH_ready (rs := [8]) (by kernel_rfl) (by simp) ?_
    refine AllReadyH.cons (o := _) rfl (fun K hK => ?_) AllReadyH.nil
    go_simp
    go_at_call 66
    refine ((unhide C2') _ hHeld.1).mono ?_
    rintro r w2 ⟨d2, c2, rfl, o2, b2⟩
    refine hK.out _ _ (⟨hHeld.1.trans (b2.mono hHeld.1.size), ((unhide HC) _ (hHeld.1.trans (b2.mono hHeld.1.size))).1⟩) (fun hHeld => ?_)
    clear hK K
    try dsimp only
    refine wpAnyH_ready (rs := [9]) (by kernel_rfl) (by simp) ?_
    refine AllReadyH.cons (o := _) rfl (fun K hK => ?_) AllReadyH.nil
    go_simp
    go_at_call 65
    refine ((unhide C3') _ hHeld.1 _ _ _ (BRow.own2 o2 (unhide HRG))).mono ?_
    rintro r w3 ⟨rfl, rfl⟩
    refine hK.out _ _ (hHeld) (fun hHeld => ?_)
    clear hK K
    try dsimp only
    refine wpAnyH_take (i := 10) (oi := _) (v := ?_) rfl (by kernel_rfl) (by kernel_rfl) (by kernel_rfl) (fun _ _ _ h => h) (Or.inl ⟨by rfl, ?_⟩) (by assumption) ?_
    rotate_left
    · ((intro wq hSw; (try dsimp only at hSw); go_simp) <;> with_reducible rfl)
    try dsimp only
    refine wpAnyH_done (by kernel_rfl) ?_ _
    have B2 := hide hHeld.1
    clear b1 hHeld b2 o2
    go_wp2_with fail
    go_ret
    exact ⟨ret_int (unhide HE2).symm, unhide B2⟩

end Go.Proofs.YtldiilmpmcbjkaaGreatDoor

/- What is proved here: the model's fault of a store (l10Fault, StoreFault). -/
namespace Go.Proofs.YtldiilmpmcbjkaaGreatDoor
open Go.RowKit
set_option linter.unusedVariables false
set_option linter.unusedSimpArgs false
set_option maxRecDepth 100000

set_option maxHeartbeats 8000000 in
theorem l10Fault_any (g of' : Nat) (s : Sl) (x : St) (w : World) (sb : ∀ j v, (tvals s x).toList[j]? = some v → w.cell? ⟨g, of' + j, none⟩ = some v) (o : RowOk enK w s x.2) (m : StSm x) :
    Calls Tryz.prog 31 #[.pointer (some ⟨g, of', none⟩)] w fun r w' => r = .returned (.int .i64 (stFlt x)) ∧ Below w.heap.size w w' := by
  obtain ⟨c, xs⟩ := x
  obtain ⟨sa, n, cp⟩ := s
  have o' : RowOk enK w ⟨sa, n, cp⟩ xs := o
  have hlen : n = xs.length := o'.len
  have hmax : n ≤ maxLen := Nat.le_trans o'.room o'.max
  unfold maxLen at hmax
  have D1 := hide (l8Fault_at g of' c w (fun j v hv => by
    have hj : j < 3 := (List.getElem?_eq_some_iff.1 hv).1
    match j, hj, hv with
    | 0, _, hv | 1, _, hv | 2, _, hv => exact sb _ v hv))
  have x3 := sb 3 _ rfl
  have HX3 := hide (fun (W : World) (hb : Below w.heap.size w W) => (hb.cell (p := ⟨g, of' + 3, none⟩) (lt_of_cell x3)).trans x3)
  have HE : Hid (stFlt (c, xs) = _) := show stFlt (c, xs) = _ by unfold stFlt; exact rfl
  generalize stFlt (c, xs) = R at HE ⊢
  dsimp only at HE
  generalize cfFlt c = q0 at D1 HE
  have HRO := hide (fun (W : World) (hb : Below w.heap.size w W) => RowOk.below o' hb (Nat.le_refl _))
  have HM := hide m
  have HL := hide hlen
  simp only at x3 HX3
  clear o o' m hlen sb
  go_enter Tryz.func31, Tryz.ntmps31
  go_wp2_with fail
  refine (unhide D1).mono ?_
  rintro r w1 ⟨rfl, rfl⟩
  clear D1
  by_cases hq : q0 = 0
  case neg =>
    have HE1 := hide ((unhide HE).trans (if_neg hq))
    have hne : (q0 != 0) = true := by simp [hq]
    clear HE hq
    go_wp2_with fail
    go_ret
    exact ⟨ret_int (unhide HE1).symm, Below.refl _ _⟩
  subst hq
  have HE1 := hide ((unhide HE).trans (if_pos rfl))
  clear HE
  by_cases hw : 1 ≤ xs.length ∧ xs.length ≤ 24
  case neg =>
    have HE2 := hide ((unhide HE1).trans (if_neg hw))
    by_cases hn : n < 1
    · have d1 : decide ((n : Int) < 1) = true := decide_eq_true (by omega)
      obtain rfl : n = 0 := by omega
      clear HE1 hw hn
      go_wp2_with fail
      try go_quiet (fail)
      go_wp2_with fail
      go_ret
      exact ⟨ret_int (unhide HE2).symm, by first | exact Below.refl _ _ | exact below_drewN (Below.refl _ _) _⟩
    · have d1 : decide ((n : Int) < 1) = false := decide_eq_false (by omega)
      have d1' : decide (n < 1) = false := decide_eq_false (by omega)
      have d2 : decide ((24 : Int) < (n : Int)) = true := decide_eq_true (by have := unhide HL; omega)
      have d2' : decide (24 < n) = true := decide_eq_true (by have := unhide HL; omega)
      clear HE1 hw hn
      go_wp2_with fail
      try go_quiet (fail)
      go_wp2_with fail
      go_ret
      exact ⟨ret_int (unhide HE2).symm, by first | exact Below.refl _ _ | exact below_drewN (Below.refl _ _) _⟩
  have HE2 := hide ((unhide HE1).trans (if_pos hw))
  have hs1 : 1 ≤ n ∧ n ≤ 24 := by have := unhide HL; omega
  have d1 : decide ((n : Int) < 1) = false := decide_eq_false (by omega)
  have d1' : decide (n < 1) = false := decide_eq_false (by omega)
  have d2 : decide ((24 : Int) < (n : Int)) = false := decide_eq_false (by omega)
  have d2' : decide (24 < n) = false := decide_eq_false (by omega)
  clear HE1 hw
  obtain ⟨b, off, ha, hent⟩ := ((unhide HRO) w1 (Below.refl _ _)).ent (by show 0 < n; omega)
  have HENT := hide (fun (W : World) (hb : Below w1.heap.size w1 W) (i : Nat) (y : En) (hy : xs[i]? = some y) => match hent i y hy with | ⟨e, h⟩ => (⟨e, h.below hb (Nat.le_refl _)⟩ : ∃ e, EAt W b (off + i * 14) e y))
  have ha' : sa = some ⟨b, off, none⟩ := ha
  subst ha'
  generalize hen : enFrom xs xs.length 0 = ef at HE2
  have HEF : Hid (ef = enFrom xs (xs.length - 0) 0) := hen.symm
  clear hen hent ha
  go_wp2_with fail
  try go_quiet (fail)
  go_wp2_with fail
  go_loopw [4] (fun i wr => ∃ k : Nat, k ≤ n ∧ i = .int .i64 k ∧ ef = enFrom xs (xs.length - k) k ∧ AllOk (xs.take k) ∧ Below w1.heap.size w1 wr) (fun i _ => n - (intOf i).toNat)
  case atStart => exact ⟨0, Nat.zero_le _, rfl, unhide HEF, fun y hy => by simp at hy, by first | exact Below.refl _ _ | exact below_drewN (Below.refl _ _) _⟩
  case round =>
    obtain ⟨k, hk, rfl, hef, hall, hbr⟩ := hrel
    have x3' := (unhide HX3) wr hbr
    have HBR := hide hbr
    clear x3 HEF
    by_cases hlt : k < n
    · have hkx : k < xs.length := by rw [← unhide HL]; exact hlt
      obtain ⟨y, hy⟩ : ∃ y, xs[k]? = some y := ⟨_, List.getElem?_eq_getElem hkx⟩
      rw [enFrom_step xs k y hy] at hef
      have HD := hide (l10One_any ⟨some ⟨b, off, none⟩, n, cp⟩ xs k y wr ((unhide HRO) wr hbr) hy hall ((unhide HM).e y (List.mem_of_getElem? hy)))
      have i1 : (0 : Int) ≤ (k : Int) := by omega
      have i2 : (k : Int) < (n : Int) := by omega
      have HST := hide (fun (h0 : enFlt (xs.take k) y = 0) => hall.step hy h0)
      generalize enFlt (xs.take k) y = q at HD hef HST
      have HEF := hide hef
      clear hef hall hy hkx hbr
      by_cases hq : q = 0
      · subst hq
        have hq' : ((0 : Int) != 0) = false := by simp
        go_wp2_with fail
        refine (unhide HD).mono ?_
        rintro r w3 ⟨rfl, b3⟩
        have B3 := hide ((unhide HBR).trans (b3.mono (unhide HBR).size))
        clear b3
        go_wp2_with fail
        go_roundw
        case rel => exact ⟨k + 1, by omega, by go_num, by have := unhide HEF; simpa using this, (unhide HST) (by first | rfl | trivial), unhide B3⟩
        case measure => simp [intOf]; omega
      · have hq' : (q != 0) = true := by simp [hq]
        have HEE : Hid (R = q) := by
          have h1 := unhide HEF
          have h2 := unhide HE2
          rw [if_neg hq] at h1
          rw [h1, if_neg hq] at h2
          exact h2
        clear HEF HE2
        go_wp2_with fail
        refine (unhide HD).mono ?_
        rintro r w3 ⟨rfl, b3⟩
        have B3 := hide ((unhide HBR).trans (b3.mono (unhide HBR).size))
        clear b3
        go_wp2_with fail
        go_ret
        exact ⟨ret_int (unhide HEE).symm, unhide B3⟩
    · obtain rfl : k = n := by omega
      rw [enFrom_end xs k (by rw [unhide HL]; exact Nat.le_refl _)] at hef
      obtain ⟨y, hy⟩ : ∃ y, xs[0]? = some y := ⟨_, List.getElem?_eq_getElem (by rw [← unhide HL]; omega)⟩
      obtain ⟨e, he⟩ := (unhide HENT) wr hbr 0 y hy
      have y6 := he.1 6 _ rfl
      simp only [Nat.zero_mul, Nat.add_zero] at y6
      have hys : y.1.s.length = e.1.s.n := (hd_ok he.2.1).s.1
      have HE3 : Hid (R = if e.1.s.n = 0 then 4 else 0) := by
        have h2 := unhide HE2
        rw [if_pos hef] at h2
        cases xs with
        | nil => simp at hy
        | cons y' r =>
          simp at hy
          subst hy
          rw [← hys]
          exact h2
      clear HE2 hef hall he hy hys hbr
      have j1 : (0 : Int) < (k : Int) := by omega
      by_cases hz : e.1.s.n = 0
      · rw [if_pos hz] at HE3
        have hz' : (((e.1.s.n : Nat) : Int) == 0) = true := by simp [hz]
        clear hz
        go_wp2_with fail
        go_ret
        exact ⟨ret_int (unhide HE3).symm, unhide HBR⟩
      · rw [if_neg hz] at HE3
        have hz' : (((e.1.s.n : Nat) : Int) == 0) = false := by simp [hz]
        clear hz
        go_wp2_with fail
        go_ret
        exact ⟨ret_int (unhide HE3).symm, unhide HBR⟩

end Go.Proofs.YtldiilmpmcbjkaaGreatDoor

/- What is proved here: what HeadOf of the program and of the model answers: the place of the best entry. -/
namespace Go.Proofs.YtldiilmpmcbjkaaGreatDoor
open Go.RowKit
set_option linter.unusedVariables false
set_option linter.unusedSimpArgs false
set_option maxRecDepth 100000

/-- The head. -/
def hoVal (x : St) : Int := if stFlt x = 0 then (bestL x.2 : Int) else 0

end Go.Proofs.YtldiilmpmcbjkaaGreatDoor

/- What is proved here: the program's line to a place (climb, slices.Reverse, lineTo). -/
namespace Go.Proofs.YtldiilmpmcbjkaaGreatDoor
open Go.RowKit
set_option linter.unusedVariables false
set_option linter.unusedSimpArgs false
set_option maxRecDepth 100000

set_option maxHeartbeats 4000000 in
theorem climb1_none (Bp Be : Nat) (s : Sl) (xs : List En) (w : World) (hp : SBlk w Bp [.int .i64 (-1)] 2) (he : w.cell? ⟨Be, 0, none⟩ = some (.slice s.a s.n s.c)) (o : RowOk enK w s xs) :
    Calls Tryz.prog 58 #[.pointer (some ⟨Bp, 0, none⟩), .pointer (some ⟨Be, 0, none⟩)] w fun r w' => r = .returned (.int .i64 (-1)) ∧ w' = w := by
  have c0 := hp.cell 0
  have f0 := hp.free 0
  simp only [List.getElem?_cons_zero] at c0
  have D1 := hide (entryAt_any s xs (-1) w o (by omega))
  have e1 : enAt xs (-1) = none := if_pos rfl
  rw [e1] at D1
  clear hp o e1
  go_enter Tryz.func58, Tryz.ntmps58
  go_wp2_with fail
  refine (unhide D1).mono ?_
  rintro r w1 ⟨q, rfl, hq, rfl⟩
  rcases hq with ⟨rfl, _⟩ | ⟨_, _, _, _, _, h, _⟩
  · go_wp2_with fail
    go_ret
    exact ⟨rfl, rfl⟩
  · cases h

set_option maxHeartbeats 4000000 in
theorem climb1_some (Bp Be m : Nat) (s : Sl) (xs : List En) (w : World) (hp : SBlk w Bp [.int .i64 (m : Int)] 2) (he : w.cell? ⟨Be, 0, none⟩ = some (.slice s.a s.n s.c)) (o : RowOk enK w s xs) (hr : m < xs.length) :
    Calls Tryz.prog 58 #[.pointer (some ⟨Bp, 0, none⟩), .pointer (some ⟨Be, 0, none⟩)] w fun r w' => r = .returned (.int .i64 (m : Int)) ∧ w' = w.setCell ⟨Bp, 0, none⟩ (.int .i64 (upAt xs (m : Int))) := by
  have c0 := hp.cell 0
  have f0 := hp.free 0
  simp only [List.getElem?_cons_zero] at c0
  have D1 := hide (entryAt_any s xs (m : Int) w o (by omega))
  obtain ⟨x, hx⟩ : ∃ x, xs[m]? = some x := ⟨_, List.getElem?_eq_getElem hr⟩
  have e1 : enAt xs (m : Int) = some x := by unfold enAt; rw [if_neg (by omega)]; simpa using hx
  have hup : upAt xs (m : Int) = x.2.2.1 := by unfold upAt; simp only [Int.toNat_natCast, hx]
  rw [e1] at D1
  rw [hup]
  clear hp o hr e1 hup hx
  go_enter Tryz.func58, Tryz.ntmps58
  go_wp2_with fail
  refine (unhide D1).mono ?_
  rintro r w1 ⟨q, rfl, hq, rfl⟩
  rcases hq with ⟨_, h⟩ | ⟨b, of', ee, y, rfl, h, hat⟩
  · cases h
  · obtain rfl : x = y := Option.some.inj h
    have c12 := hat.1 12 _ rfl
    clear hat h D1
    go_wp2_with fail
    go_ret
    exact ⟨rfl, rfl⟩

theorem climb_any (s : Sl) (p : Int) (w : World) :
    Calls Tryz.prog 39 #[.slice s.a s.n s.c, .int .i64 p] w fun r w' => r = .returned (.func (.func 58) #[] #[.pointer (some ⟨w.heap.size + 1, 0, none⟩), .pointer (some ⟨w.heap.size, 0, none⟩)]) ∧ w' = (w.alloc (.cells #[.slice s.a s.n s.c] 33)).alloc (.cells #[.int .i64 p] 2) := by
  go_enter Tryz.func39, Tryz.ntmps39
  go_wp2_with fail
  go_ret
  exact ⟨rfl, rfl⟩

/-- Turned round up to a place: the first k and the last k are exchanged. -/
def revK (L : List Int) (k : Nat) : List Int := (List.range L.length).map fun i => if i < k ∨ L.length - k ≤ i then L.getD (L.length - 1 - i) 0 else L.getD i 0

theorem revK_length (L : List Int) (k : Nat) : (revK L k).length = L.length := by simp [revK]

theorem revK_at (L : List Int) (k i : Nat) (h : i < L.length) : (revK L k).getD i 0 = if i < k ∨ L.length - k ≤ i then L.getD (L.length - 1 - i) 0 else L.getD i 0 := by
  simp [revK, List.getD_eq_getElem?_getD, h]

theorem revK_zero (L : List Int) : revK L 0 = L := by
  refine List.ext_getElem (revK_length L 0) fun i h1 h2 => ?_
  have := revK_at L 0 i h2
  rw [getD_at _ _ h1] at this
  rw [this, if_neg (by omega), getD_at _ _ h2]

theorem revK_end (L : List Int) (k : Nat) (h : L.length ≤ 2 * k + 1) : revK L k = L.reverse := by
  refine List.ext_getElem (by rw [revK_length, List.length_reverse]) fun i h1 h2 => ?_
  rw [revK_length] at h1
  have := revK_at L k i h1
  rw [getD_at _ _ (by rw [revK_length]; exact h1)] at this
  rw [this, List.getElem_reverse]
  by_cases c : i < k ∨ L.length - k ≤ i
  · rw [if_pos c, getD_at _ _ (by omega)]
  · rw [if_neg c, getD_at _ _ h1]
    congr 1
    omega

theorem revK_step (L : List Int) (k : Nat) (h : k < L.length - 1 - k) : ((revK L k).set k ((revK L k).getD (L.length - 1 - k) 0)).set (L.length - 1 - k) ((revK L k).getD k 0) = revK L (k + 1) := by
  rw [revK_at L k _ (by omega), revK_at L k _ (by omega), if_neg (by omega), if_neg (by omega)]
  refine List.ext_getElem (by simp [revK_length]) fun i h1 h2 => ?_
  rw [revK_length] at h2
  have e := revK_at L (k + 1) i h2
  rw [getD_at _ _ (by rw [revK_length]; exact h2)] at e
  rw [e, List.getElem_set, List.getElem_set]
  by_cases a : L.length - 1 - k = i
  · rw [if_pos a, if_pos (by omega)]
    congr 1
    omega
  · rw [if_neg a]
    by_cases b : k = i
    · rw [if_pos b, if_pos (by omega), b]
    · rw [if_neg b]
      have e2 := revK_at L k i h2
      rw [getD_at _ _ (by rw [revK_length]; exact h2)] at e2
      rw [e2]
      by_cases c : i < k ∨ L.length - k ≤ i
      · rw [if_pos c, if_pos (by omega)]
      · rw [if_neg c, if_neg (by omega)]

theorem revK_map (L : List Int) (k : Nat) (h : k < L.length - 1 - k) : ((((revK L k).map (Value.int .i64)).set k (.int .i64 ((revK L k).getD (L.length - 1 - k) 0))).set (L.length - 1 - k) (.int .i64 ((revK L k).getD k 0))) = (revK L (k + 1)).map (Value.int .i64) := by
  rw [← revK_step L k h, List.map_set, List.map_set]

theorem own_drew {w : World} {B : Nat} {e : TypeId} {m n : Nat} {v : Value} {xs : List Value} (h : w.ownsRow B e m v n xs) : w.drew.ownsRow B e m v n xs := h

set_option maxHeartbeats 4000000 in
theorem reverse_any (B n c : Nat) (a : Option Addr) (L : List Int) (w : World) (h : w.ownsRow B 2 1 (.slice a n c) n (L.map (Value.int .i64))) (hn : n ≤ 1048576) :
    Calls Tryz.prog 23 #[.slice a n c] w fun r w' => (∃ v, r = .returned v) ∧ w'.ownsRow B 2 1 (.slice a n c) n (L.reverse.map (Value.int .i64)) ∧ Below B w w' := by
  have hl : L.length = n := by simpa using h.1
  rcases Nat.eq_zero_or_pos n with h0 | hp
  · subst h0
    obtain rfl : L = [] := List.length_eq_zero_iff.1 hl
    have HO := hide h
    clear h hl
    go_enter Tryz.func23, Tryz.ntmps23
    go_wp2_with fail
    refine wp_loop_rounds 1 ?_
    rw [rounds_succ]
    go_wp2_with fail
    exact bodyPost_end (v := .tuple #[]) (by simp [results, Tryz.results23]) rfl ⟨⟨_, rfl⟩, unhide HO, Below.refl _ _⟩
  · obtain ⟨g, ha⟩ : ∃ g, a = some ⟨g, 0, none⟩ := by
      rcases h.2 with ⟨h1, _⟩ | ⟨g, cap, cur, h1, _⟩
      · simp only [Value.slice.injEq] at h1; omega
      · simp only [Value.slice.injEq] at h1; exact ⟨g, h1.1⟩
    subst ha
    have hgB : B ≤ g := (h.lt g rfl).1
    have HL := hide hl
    rw [← revK_zero L] at h
    go_enter Tryz.func23, Tryz.ntmps23
    go_wp2_with fail
    go_loopw [2, 3] (fun i j wr => ∃ k : Nat, 2 * k ≤ n + 1 ∧ i = .int .i64 k ∧ j = .int .i64 ((n : Int) - 1 - k) ∧ wr.ownsRow B 2 1 (.slice (some ⟨g, 0, none⟩) n c) n ((revK L k).map (Value.int .i64)) ∧ Below B w wr) (fun i _ _ => n - (intOf i).toNat)
    case atStart => exact ⟨0, by omega, rfl, by simp, h, Below.refl _ _⟩
    case round =>
      obtain ⟨k, hk, rfl, rfl, hown, hbr⟩ := hrel
      by_cases hlt : k < n - 1 - k
      · obtain ⟨j, ej⟩ : ∃ j : Nat, n - 1 - k = j := ⟨_, rfl⟩
        have ej' : (n : Int) - 1 - (k : Int) = (j : Int) := by omega
        rw [ej']
        have cj := hown.cellAt j (by omega)
        have ci := hown.cellAt k (by omega)
        rw [List.getElem?_map, List.getElem?_eq_getElem (by rw [revK_length, unhide HL]; omega), Option.map_some, ← getD_at _ _ (by rw [revK_length, unhide HL]; omega)] at cj ci
        have fi := hown.frozenAt k
        have fj := hown.frozenAt j
        have R1 := hown.stored k (.int .i64 ((revK L k).getD j 0))
        have R2 := R1.1.stored j (.int .i64 ((revK L k).getD k 0))
        have hst := revK_map L k (by rw [unhide HL]; exact hlt)
        rw [unhide HL, ej] at hst
        rw [hst] at R2
        have HR := hide R2.1
        have HB := hide ((hbr.setCell (p := ⟨g, k, none⟩) hgB (.int .i64 ((revK L k).getD j 0))).setCell (p := ⟨g, j, none⟩) hgB (.int .i64 ((revK L k).getD k 0)))
        generalize (revK L k).getD j 0 = vj at cj HR HB
        generalize (revK L k).getD k 0 = vi at ci HR HB
        have k1 : (0 : Int) ≤ (k : Int) := by omega
        have k2 : (k : Int) < (n : Int) := by omega
        have j1 : (0 : Int) ≤ (j : Int) := by omega
        have j2 : (j : Int) < (n : Int) := by omega
        have kj : decide ((k : Int) < (j : Int)) = true := decide_eq_true (by omega)
        have nkj : ¬ k = j := by omega
        have njk : ¬ j = k := by omega
        clear R1 R2 hst hown hbr h
        have mixed : Tryz.prog.follows .mixedOrders = true := by kernel_rfl
        go_wp2_with fail
        go_region_o
        all_goals
          go_wp2_with fail
          go_roundw
          case rel => exact ⟨k + 1, by omega, by go_num, by go_num, own_drew (unhide HR), (unhide HB).drew⟩
          case measure => simp [intOf]; omega
      · have hd : decide ((k : Int) < (n : Int) - 1 - (k : Int)) = false := decide_eq_false (by omega)
        rw [revK_end L k (by rw [unhide HL]; omega)] at hown
        have HO := hide hown
        have HB := hide hbr
        obtain ⟨j, ej⟩ : ∃ j : Int, (n : Int) - 1 - (k : Int) = j := ⟨_, rfl⟩
        rw [ej] at hd ⊢
        clear hown hbr h ej
        go_wp2_with fail
        exact bodyPost_end (v := .tuple #[]) (by simp [results, Tryz.results23]) rfl ⟨⟨_, rfl⟩, unhide HO, unhide HB⟩

end Go.Proofs.YtldiilmpmcbjkaaGreatDoor

/- What is proved here: the program's line to a place (lineTo). -/
namespace Go.Proofs.YtldiilmpmcbjkaaGreatDoor
open Go.RowKit
set_option linter.unusedVariables false
set_option linter.unusedSimpArgs false
set_option maxRecDepth 100000

set_option maxHeartbeats 8000000 in
theorem lineTo_any (s : Sl) (xs : List En) (p : Nat) (w : World) (o : RowOk enK w s xs) (hu : UpsOk xs) (hl : xs.length ≤ 24) (hr : p < xs.length) :
    Calls Tryz.prog 20 #[.slice s.a s.n s.c, .int .i64 (p : Int)] w fun r w' => ∃ a c, r = .returned (.slice a (lineL xs p).length c) ∧ w'.ownsRow w.heap.size 2 1 (.slice a (lineL xs p).length c) (lineL xs p).length ((lineL xs p).map (Value.int .i64)) ∧ Below w.heap.size w w' := by
  obtain ⟨i0, hi, hz0, hz1, hz2⟩ := info_parts info2
  obtain ⟨k0, k1, K0, hsz⟩ := two_blk w #[.slice s.a s.n s.c] #[.int .i64 (p : Int)] 33 2
  have D0 := hide (climb_any s (p : Int) w)
  obtain ⟨W0, e0⟩ : ∃ W, (w.alloc (.cells #[.slice s.a s.n s.c] 33)).alloc (.cells #[.int .i64 (p : Int)] 2) = W := ⟨_, rfl⟩
  rw [e0] at k0 k1 K0 hsz D0
  have HRO := hide (fun (W : World) (hb : Below w.heap.size w W) => RowOk.below o hb (Nat.le_refl _))
  have D1 := hide (climb1_some (w.heap.size + 1) w.heap.size p s xs W0 k1 (k0.cell 0) ((unhide HRO) W0 K0) hr)
  have hnx := up_next hu (p := (p : Int)) (by omega) (by omega)
  have k0' := k0.other (g' := w.heap.size + 1) (i := 0) (v := .int .i64 (upAt xs (p : Int))) (by omega)
  have k1' := k1.set 0 (.int .i64 (upAt xs (p : Int)))
  simp only [List.set_cons_zero] at k1'
  have K1 := K0.setCell (p := ⟨w.heap.size + 1, 0, none⟩) (by show w.heap.size ≤ w.heap.size + 1; omega) (.int .i64 (upAt xs (p : Int)))
  have hz' : (W0.setCell ⟨w.heap.size + 1, 0, none⟩ (.int .i64 (upAt xs (p : Int)))).heap.size = w.heap.size + 2 := by rw [size_set']; exact hsz
  generalize W0.setCell ⟨w.heap.size + 1, 0, none⟩ (.int .i64 (upAt xs (p : Int))) = W1 at D1 k0' k1' K1 hz'
  have HU := hide hu
  have hL : lineL xs (p : Int) = (clL xs ((p : Int) + 1).toNat (p : Int)).reverse := rfl
  obtain ⟨LL, eLL⟩ : ∃ L, L = clL xs ((p : Int) + 1).toNat (p : Int) := ⟨_, rfl⟩
  rw [← eLL] at hL
  have hLn : LL.length ≤ 24 := by rw [eLL]; have := clL_len xs ((p : Int) + 1).toNat (p : Int); omega
  rw [hL]
  have HLE := hide eLL
  have HLn := hide hLn
  clear hL eLL hLn
  have HNX := hide hnx
  clear o e0 k0 k1 K0 hu
  go_enter Tryz.func20, Tryz.ntmps20
  go_wp2_with fail
  refine (unhide D0).mono ?_
  rintro r w1 ⟨rfl, rfl⟩
  go_wp2_with fail
  refine (unhide D1).mono ?_
  rintro r w2 ⟨rfl, rfl⟩
  go_wp2_with fail
  go_loopw [5, 7] (fun ln av wr => ∃ (q r : Int) (D : List Int) (a' : Option Addr) (c' : Nat), av = .int .i64 q ∧ ln = .slice a' D.length c' ∧ (-1 ≤ q ∧ q < xs.length) ∧ (q = -1 → r = -1) ∧ (q ≠ -1 → r = upAt xs q) ∧ LL = D ++ clL xs (q + 1).toNat q ∧ wr.ownsRow (w.heap.size + 2) 2 1 (.slice a' D.length c') D.length (D.map (Value.int .i64)) ∧ SBlk wr w.heap.size [.slice s.a s.n s.c] 33 ∧ SBlk wr (w.heap.size + 1) [.int .i64 r] 2 ∧ Below w.heap.size w wr ∧ w.heap.size + 2 ≤ wr.heap.size) (fun _ av _ => (intOf av + 1).toNat)
  case atStart => exact ⟨(p : Int), upAt xs (p : Int), [], none, 0, rfl, rfl, ⟨by omega, by omega⟩, fun h => by omega, fun _ => rfl, unhide HLE, World.ownsRow_nil _ _ _ _, k0', k1', K1, by omega⟩
  case round =>
    obtain ⟨q, r, D, a', c', rfl, rfl, hq, hr1, hr2, hLD, hown, kb0, kb1, hbr, hsw⟩ := hrel
    by_cases h1 : q = -1
    · subst h1
      rw [clL_none, List.append_nil] at hLD
      subst hLD
      have hne : ((-1 : Int) != -1) = false := by simp
      have DR := hide (reverse_any (w.heap.size + 2) LL.length c' a' LL wr hown (by have := unhide HLn; omega))
      have HB := hide hbr
      clear hr1 hr2 hown kb0 kb1 hbr
      go_wp2_with fail
      refine (unhide DR).mono ?_
      rintro rr w3 ⟨⟨v, rfl⟩, o3, b3⟩
      have O3 := hide (ownsRow_base o3 (B' := w.heap.size) (by omega))
      have B3 := hide ((unhide HB).trans (b3.mono (by omega)))
      clear o3 b3
      go_wp2_with fail
      go_ret
      refine ⟨a', c', ?_, ?_, unhide B3⟩
      · rw [List.length_reverse]; rfl
      · rw [List.length_reverse]; exact unhide O3
    · obtain ⟨m, rfl⟩ : ∃ m : Nat, q = (m : Int) := ⟨q.toNat, by omega⟩
      obtain rfl : r = upAt xs (m : Int) := hr2 h1
      have hm : m < xs.length := by omega
      have hnx := up_next (unhide HU) (p := (m : Int)) (by omega) (by omega)
      rw [clL_step (unhide HU) (by omega) (by omega)] at hLD
      have hDl : D.length ≤ 24 := by have := unhide HLn; rw [hLD, List.length_append] at this; omega
      have hne : (((m : Nat) : Int) != -1) = true := by simp
      have HLD : Hid (LL = (D ++ [(m : Int)]) ++ clL xs (upAt xs (m : Int) + 1).toNat (upAt xs (m : Int))) := by show _ = _; rw [hLD]; simp
      clear hr1 hr2 hLD h1 hq
      go_wp2_with (at_builtin; refine wpList_append_own _ rfl _ _ 28 rfl (w.heap.size + 2) 2 i0 (.int .i64 0) 1 8 Tryz.underlying28 hi hz0 hz1 hz2 rfl (by decide) _ _ _ rfl (hown.alloc _) ⟨wr.heap.size, 0, none⟩ 1 1 [.int .i64 (m : Int)] rfl rfl ?c1 ?c2 ?c3 ?c4 ?c5 ?_)
      case c1 => exact cell_one_new _ _ _
      case c2 => intro u hu; simp at hu; subst hu; rfl
      case c3 => unfold maxLen; omega
      case c4 => omega
      case c5 => simp; omega
      intro v' w4 hown2 hgrow _
      obtain ⟨a2, cap2, hv⟩ := own_shape hown2
      have hb4 : Below (w.heap.size + 2) wr w4 := ((Below.refl (w.heap.size + 2) wr).alloc (by omega) _).grown hgrow (by simp; omega) (fun g e => (hown.lt g e).1)
      rw [hv] at hown2
      rw [hv]
      have kb0 := kb0.below hb4 (by omega)
      have kb1 := kb1.below hb4 (by omega)
      have hb5 := hbr.trans (hb4.mono (by omega))
      have hs4 : w.heap.size + 2 ≤ w4.heap.size := Nat.le_trans hsw hb4.size
      have hown3 : w4.ownsRow (w.heap.size + 2) 2 1 (.slice a2 (D ++ [(m : Int)]).length cap2) (D ++ [(m : Int)]).length ((D ++ [(m : Int)]).map (Value.int .i64)) := by
        rw [List.length_append, List.map_append]; exact hown2
      have EL : Hid ((D ++ [(m : Int)]).length = D.length + 1) := by show _ = _; simp
      have HRW := hide ((unhide HRO) w4 hb5)
      clear hown2 hgrow hown hbr hb4 hv
      by_cases hu1 : upAt xs (m : Int) = -1
      · rw [hu1] at kb1 HLD
        have DC := hide (climb1_none (w.heap.size + 1) w.heap.size s xs w4 kb1 (kb0.cell 0) (unhide HRW))
        have Q := hide (And.intro hown3 (And.intro kb0 (And.intro kb1 (And.intro hb5 hs4))))
        clear hown3 kb0 kb1 hb5 hs4
        go_wp2_with fail
        refine (unhide DC).mono ?_
        rintro rr w5 ⟨rfl, rfl⟩
        go_wp2_with fail
        obtain ⟨hown3, kb0, kb1, hb5, hs4⟩ := unhide Q
        go_roundw
        case rel => exact ⟨-1, -1, D ++ [(m : Int)], a2, cap2, rfl, by rw [unhide EL], ⟨by omega, by omega⟩, fun _ => rfl, fun h => absurd rfl h, unhide HLD, hown3, kb0, kb1, hb5, hs4⟩
        case measure => simp [intOf]
      · obtain ⟨u, eu⟩ : ∃ u : Nat, upAt xs (m : Int) = (u : Int) := ⟨(upAt xs (m : Int)).toNat, by omega⟩
        rw [eu] at kb1 HLD hnx
        have DC := hide (climb1_some (w.heap.size + 1) w.heap.size u s xs w4 kb1 (kb0.cell 0) (unhide HRW) (by omega))
        have hown4 := ownsRow_setCell_below hown3 (a := ⟨w.heap.size + 1, 0, none⟩) (by show w.heap.size + 1 < w.heap.size + 2; omega) (.int .i64 (upAt xs (u : Int)))
        have kb0' := kb0.other (g' := w.heap.size + 1) (i := 0) (v := .int .i64 (upAt xs (u : Int))) (by omega)
        have kb1' := kb1.set 0 (.int .i64 (upAt xs (u : Int)))
        simp only [List.set_cons_zero] at kb1'
        have hb6 := hb5.setCell (p := ⟨w.heap.size + 1, 0, none⟩) (by show w.heap.size ≤ w.heap.size + 1; omega) (.int .i64 (upAt xs (u : Int)))
        have hs6 : w.heap.size + 2 ≤ (w4.setCell ⟨w.heap.size + 1, 0, none⟩ (.int .i64 (upAt xs (u : Int)))).heap.size := by rw [size_set']; exact hs4
        generalize w4.setCell ⟨w.heap.size + 1, 0, none⟩ (.int .i64 (upAt xs (u : Int))) = W5 at DC hown4 kb0' kb1' hb6 hs6
        have Q := hide (And.intro hown4 (And.intro kb0' (And.intro kb1' (And.intro hb6 hs6))))
        have hum : u < m := by omega
        clear hown3 kb0 kb1 hb5 hs4 hown4 kb0' kb1' hb6 hs6 hu1 eu
        go_wp2_with fail
        refine (unhide DC).mono ?_
        rintro rr w5 ⟨rfl, rfl⟩
        go_wp2_with fail
        obtain ⟨hown3, kb0, kb1, hb5, hs4⟩ := unhide Q
        go_roundw
        case rel => exact ⟨(u : Int), upAt xs (u : Int), D ++ [(m : Int)], a2, cap2, rfl, by rw [unhide EL], ⟨by omega, by omega⟩, fun h => by omega, fun _ => rfl, unhide HLD, hown3, kb0, kb1, hb5, hs4⟩
        case measure => simp [intOf]; omega

end Go.Proofs.YtldiilmpmcbjkaaGreatDoor

/- What is proved here: the model's line to a place (l10Line). -/
namespace Go.Proofs.YtldiilmpmcbjkaaGreatDoor
open Go.RowKit
set_option linter.unusedVariables false
set_option linter.unusedSimpArgs false
set_option maxRecDepth 100000

set_option maxHeartbeats 4000000 in
theorem l10Line_any (g of' : Nat) (s : Sl) (xs : List En) (hu : UpsOk xs) (hl : xs.length ≤ 24) (k : Nat) : ∀ (p : Int), (p + 1).toNat ≤ k → -1 ≤ p → p < xs.length → ∀ (w : World), w.cell? ⟨g, of' + 3, none⟩ = some (.slice s.a s.n s.c) → RowOk enK w s xs →
    Calls Tryz.prog 15 #[.pointer (some ⟨g, of', none⟩), .int .i64 p] w fun r w' => ∃ a c, r = .returned (.slice a (lineL xs p).length c) ∧ w'.ownsRow w.heap.size 2 1 (.slice a (lineL xs p).length c) (lineL xs p).length ((lineL xs p).map (Value.int .i64)) ∧ Below w.heap.size w w' := by
  obtain ⟨i0, hi, hz0, hz1, hz2⟩ := info_parts info2
  have base : ∀ w : World, Calls Tryz.prog 15 #[.pointer (some ⟨g, of', none⟩), .int .i64 (-1)] w fun r w' => ∃ a c, r = .returned (.slice a (lineL xs (-1)).length c) ∧ w'.ownsRow w.heap.size 2 1 (.slice a (lineL xs (-1)).length c) (lineL xs (-1)).length ((lineL xs (-1)).map (Value.int .i64)) ∧ Below w.heap.size w w' := by
    intro w
    rw [lineL_none]
    go_enter Tryz.func15, Tryz.ntmps15
    go_wp2_with fail
    go_ret
    exact ⟨some ⟨w.heap.size, 0, none⟩, 0, rfl, World.ownsRow_lit w #[] 0 (Nat.le_refl _) (by unfold maxLen; omega) rfl, below_alloc w _⟩
  induction k with
  | zero =>
    intro p h1 h2 h3 w hc o
    obtain rfl : p = -1 := by omega
    exact base w
  | succ k ih =>
    intro p h1 h2 h3 w hc o
    by_cases e : p = -1
    · subst e; exact base w
    obtain ⟨m, rfl⟩ : ∃ m : Nat, p = (m : Int) := ⟨p.toNat, by omega⟩
    have hlen := o.len
    obtain ⟨x, hx⟩ : ∃ x, xs[m]? = some x := ⟨_, List.getElem?_eq_getElem (by omega)⟩
    obtain ⟨b, off, ha, hent⟩ := o.ent (by omega)
    obtain ⟨ee, he⟩ := hent m x hx
    have c12 := he.1 12 _ rfl
    have hup : upAt xs (m : Int) = x.2.2.1 := by unfold upAt; simp only [Int.toNat_natCast, hx]
    have kk := up_next hu (p := (m : Int)) (by omega) h3
    have HI := hide (fun (W : World) (hb : Below w.heap.size w W) => ih (upAt xs (m : Int)) (by omega) kk.1 (by omega) W ((hb.cell (p := ⟨g, of' + 3, none⟩) (lt_of_cell hc)).trans hc) (RowOk.below o hb (Nat.le_refl _)))
    rw [hup] at HI
    rw [lineL_step hu (by omega) h3, hup]
    rw [ha] at hc
    have HLL := hide (lineL_len xs x.2.2.1 (by omega))
    generalize lineL xs x.2.2.1 = L at HI HLL ⊢
    have i1 : (0 : Int) ≤ (m : Int) := by omega
    have i2 : (m : Int) < (s.n : Int) := by omega
    have d1 : decide (((m : Nat) : Int) < 0) = false := decide_eq_false (by omega)
    clear ih base o hent he hx hlen kk hup h1 h2 h3 e ha
    go_enter Tryz.func15, Tryz.ntmps15
    go_wp2_with fail
    refine ((unhide HI) w (Below.refl _ _)).mono ?_
    rintro r w1 ⟨a1, c1, rfl, o1, b1⟩
    have hL := unhide HLL
    go_wp2_with (at_builtin; refine wpList_append_own _ rfl _ _ 28 rfl w.heap.size 2 i0 (.int .i64 0) 1 8 Tryz.underlying28 hi hz0 hz1 hz2 rfl (by decide) _ _ _ rfl (o1.alloc _) ⟨w1.heap.size, 0, none⟩ 1 1 [.int .i64 (m : Int)] rfl rfl ?c1 ?c2 ?c3 ?c4 ?c5 ?_)
    case c1 => exact cell_one_new _ _ _
    case c2 => intro u hu; simp at hu; subst hu; rfl
    case c3 => unfold maxLen; omega
    case c4 => omega
    case c5 => have := b1.size; simp; omega
    intro v' w2 hown2 hgrow _
    obtain ⟨a2, cap2, hv⟩ := own_shape hown2
    have hb2 : Below w.heap.size w w2 := (b1.alloc b1.size _).grown hgrow (by have := b1.size; simp; omega) (fun g e => (o1.lt g e).1)
    rw [hv] at hown2
    rw [hv]
    have HO := hide hown2
    have HB := hide hb2
    clear hown2 hb2 hgrow o1 b1
    go_wp2_with fail
    go_ret
    refine ⟨a2, cap2, ?_, ?_, unhide HB⟩
    · rw [List.length_append]; rfl
    · rw [List.length_append, List.map_append]; exact unhide HO

end Go.Proofs.YtldiilmpmcbjkaaGreatDoor

/- What is proved here: what CanonOf of the program and of the model answers: the line to the best entry. -/
namespace Go.Proofs.YtldiilmpmcbjkaaGreatDoor
open Go.RowKit
set_option linter.unusedVariables false
set_option linter.unusedSimpArgs false
set_option maxRecDepth 100000

/-- The chain that counts. -/
def coList (x : St) : List Int := if stFlt x = 0 then lineL x.2 (bestL x.2 : Int) else []

end Go.Proofs.YtldiilmpmcbjkaaGreatDoor
