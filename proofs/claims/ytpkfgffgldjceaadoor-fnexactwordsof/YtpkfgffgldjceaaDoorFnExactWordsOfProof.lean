/- Proved: for every text the law FnExactWordsOf returns true. Conditions: the two listed variables hold what the program's text lays. -/
import Derived.Test.YtpkfgffgldjceaaDoorRows
import Derived.Test.YtpkfgffgldjceaaDoorTie
import Derived.Test.YtpkfgffgldjceaaDoorCards
import Derived.Test.YtpkfgffgldjceaaDoorJ13
import Derived.Test.YtpkfgffgldjceaaDoorJ14
import Derived.WalkSmall
import Derived.ChangeMaps5
import Derived.WalkKit
import Derived.ProofKit
import Derived.OpenShut
import Derived.ShutString
import Derived.ChangeOld
import Derived.Below
import Derived.OpenVars
import Derived.LaidMore
import Derived.Stop.Joined
import Derived.SevenTiedAt
namespace Go.Proofs.YtpkfgffgldjceaaDoor.fnExactWordsOf
open Go.ChangeShapes Go.WideShapes Go.ChangeAt Go.RowKit
set_option linter.unusedVariables false

theorem own : ownKnob Tryd.prog.godebug = none := by kernel_rfl
theorem laidOut : laidOutB Tryd.prog = true := by kernel_rfl

/-! The walk: the Go text returns true, and writes nothing that was there. -/
set_option maxRecDepth 100000 in
set_option maxHeartbeats 4000000 in
theorem walk (a0 : ByteArray) (w : World) (w0 : a0.size ≤ maxLen) (VV : True) :
    Calls Tryd.prog 4 #[.string a0] w fun e w' => e = .returned (.bool true) ∧ Below w.heap.size w w' := by
  by_cases hl0 : a0.size ≤ 1048576
  · have SP := hide (fun W => specWordsOf_any a0 W hl0)
    have IM := hide (fun W => implWordsOf_any a0 W hl0)
    have hln : (wds (pcs a0)).length ≤ 1048577 := by
      have h1 := wds_len (pcs a0)
      have h2 := pcs_len a0
      omega
    generalize wds (pcs a0) = zs at SP IM hln
    clear VV
    have hl1 : ¬ ((a0.size : Int) > 1048576) := by omega
    go_enter Tryd.func4, Tryd.ntmps4
    go_wp2_with fail
    refine ((unhide SP) _).mono ?_
    rintro e w1 ⟨⟨a1, L, c1⟩, rfl, o1, b1⟩
    have HL : Hid (L = zs.length) := o1.len
    have hL7 : L ≤ 1048577 := by have := unhide HL; omega
    clear hln
    go_wp2_with fail
    obtain ⟨k2, s2, p0, p1⟩ := new2 w1 (.int .i64 0) (.slice a1 L c1) 41
    generalize w1.alloc (Obj.cells #[Value.int IntKind.i64 0, Value.slice a1 L c1] 41) = w2 at k2 s2 p0 p1
    have R1 := o1.below k2 (Nat.le_refl _)
    refine ((unhide IM) _).mono ?_
    rintro e w3 ⟨⟨a3, L3, c3⟩, rfl, o3, b3⟩
    obtain rfl : L3 = L := by have h1 : L3 = zs.length := o3.len; have h2 := unhide HL; omega
    have p0' : ∀ o, (w3.alloc o).cell? ⟨w1.heap.size, 0, none⟩ = some (.int .i64 0) := fun o => ((below_alloc w3 o).cell (Nat.lt_of_lt_of_le s2 b3.size)).trans ((b3.cell s2).trans p0)
    have p1' : ∀ o, (w3.alloc o).cell? ⟨w1.heap.size, 1, none⟩ = some (.slice a1 L3 c1) := fun o => ((below_alloc w3 o).cell (Nat.lt_of_lt_of_le s2 b3.size)).trans ((b3.cell s2).trans p1)
    go_wp2_with fail
    clear p0' p1'
    obtain ⟨k4, s4, r0, r1⟩ := new2 w3 (.int .i64 0) (.slice a3 L3 c3) 41
    generalize w3.alloc (Obj.cells #[Value.int IntKind.i64 0, Value.slice a3 L3 c3] 41) = w4 at k4 s4 r0 r1
    have R3 := o3.below k4 (Nat.le_refl _)
    have G4 := b3.trans (k4.mono b3.size)
    refine (eqWords_same _ _ ⟨a3, L3, c3⟩ ⟨a1, L3, c1⟩ zs 0 _ R3 (R1.below G4 (Nat.le_refl _)) (by show L3 ≤ 2097152; omega)).mono ?_
    rintro e w5 ⟨rfl, b5⟩
    have G5 := G4.trans (b5.mono G4.size)
    have K5 := k4.trans (b5.mono k4.size)
    have r0a := (b5.cell s4).trans r0
    have r1a := (b5.cell s4).trans r1
    have o5 := o3.below K5 (Nat.le_refl _)
    go_wp2_with fail
    refine (markWords_own w2.heap.size ⟨a3, L3, c3⟩ zs 0 1 _ o5 (by show L3 ≤ 2097152; omega) (by omega) (by omega)).mono ?_
    rintro e w6 ⟨rfl, o6, g6⟩
    have hg3 : ∀ g, (Value.slice a3 L3 c3).ownBlock = some g → g < w3.heap.size := fun g hg => (o3.own.lt g hg).2
    have hs45 : w3.heap.size < w5.heap.size := Nat.lt_of_lt_of_le s4 b5.size
    have r0b := g6.cell r0a (fun e => by have := hg3 _ e.symm; exact absurd this (Nat.lt_irrefl _))
    have r1b := g6.cell r1a (fun e => by have := hg3 _ e.symm; exact absurd this (Nat.lt_irrefl _))
    have G6 : Below w2.heap.size w2 w6 := G5.grown g6 G5.size (fun g hg => (o3.own.lt g hg).1)
    go_wp2_with fail
    refine (heldWords_any _ ⟨a3, L3, c3⟩ 0 1 _ o6 (by show L3 ≤ 2097152; omega) (by omega) (by omega)).mono ?_
    rintro e w7 ⟨rfl, b7⟩
    have hs6 : w3.heap.size < w6.heap.size := Nat.lt_of_lt_of_le hs45 g6.size
    have r0c := (b7.cell hs6).trans r0b
    have r1c := (b7.cell hs6).trans r1b
    have G7 := G6.trans (b7.mono G6.size)
    have M7 := o6.below b7 (Nat.le_refl _)
    have hnn : decide (((1 + L3 : Nat) : Int) < 0) = false := decide_eq_false (by omega)
    have hne : (((1 + L3 : Nat) : Int) != ((1 + L3 : Nat) : Int)) = false := by simp
    have HM7 := hide M7
    clear M7
    go_wp2_with fail
    refine ((unhide IM) _).mono ?_
    rintro e w8 ⟨⟨a8, L8, c8⟩, rfl, o8, b8⟩
    obtain rfl : L8 = L3 := by have h1 : L8 = zs.length := o8.len; have h2 := unhide HL; omega
    have hs7 : w3.heap.size < w7.heap.size := Nat.lt_of_lt_of_le hs6 b7.size
    have G8 := G7.trans (b8.mono G7.size)
    have M8 := (unhide HM7).below b8 (Nat.le_refl _)
    have r0d := (b8.cell hs7).trans r0c
    have r1d := (b8.cell hs7).trans r1c
    have hs8 : w3.heap.size < w8.heap.size := Nat.lt_of_lt_of_le hs7 b8.size
    have p0' : ∀ o, (w8.alloc o).cell? ⟨w1.heap.size, 0, none⟩ = some (.int .i64 0) := fun o => ((below_alloc w8 o).cell (Nat.lt_of_lt_of_le s2 G8.size)).trans ((G8.cell s2).trans p0)
    have p1' : ∀ o, (w8.alloc o).cell? ⟨w1.heap.size, 1, none⟩ = some (.slice a1 L8 c1) := fun o => ((below_alloc w8 o).cell (Nat.lt_of_lt_of_le s2 G8.size)).trans ((G8.cell s2).trans p1)
    go_wp2_with fail
    clear p0' p1'
    obtain ⟨k9, s9, t0, t1⟩ := new2 w8 (.int .i64 0) (.slice a8 L8 c8) 41
    generalize w8.alloc (Obj.cells #[Value.int IntKind.i64 0, Value.slice a8 L8 c8] 41) = w9 at k9 s9 t0 t1
    have G9 := G8.trans (k9.mono G8.size)
    have R8 := o8.below k9 (Nat.le_refl _)
    refine (eqWords_same _ _ ⟨a8, L8, c8⟩ ⟨a1, L8, c1⟩ zs 0 _ R8 (R1.below G9 (Nat.le_refl _)) (by show L8 ≤ 2097152; omega)).mono ?_
    rintro e w10 ⟨rfl, b10⟩
    have r0e := (b10.cell (Nat.lt_trans hs8 s9)).trans ((k9.cell hs8).trans r0d)
    have r1e := (b10.cell (Nat.lt_trans hs8 s9)).trans ((k9.cell hs8).trans r1d)
    have M10 := (M8.below k9 (Nat.le_refl _)).below b10 (Nat.le_refl _)
    have G10 := G9.trans (b10.mono G9.size)
    go_wp2_with fail
    refine (heldWords_any _ ⟨a3, L8, c3⟩ 0 1 _ M10 (by show L8 ≤ 2097152; omega) (by omega) (by omega)).mono ?_
    rintro e w11 ⟨rfl, b11⟩
    have G11 := G10.trans (b11.mono G10.size)
    go_wp2_with fail
    go_ret
    have F2 := b1.trans (k2.mono b1.size)
    exact ⟨rfl, F2.trans (G11.mono F2.size)⟩
  · have hl1 : (a0.size : Int) > 1048576 := by omega
    go_enter Tryd.func4, Tryd.ntmps4
    go_wp2_with fail
    go_ret
    exact ⟨rfl, Below.refl _ _⟩

/-! The row's step. -/
set_option maxRecDepth 100000 in
theorem lifted (os : Os) (started : os.Started) (H : Type) (enc : TypeId × Value → H) :
    ReturnsInHanded {} Tryd.checked os 4 .any (fun w args => (Rows.fnExactWordsOfSpec.pre enc Tryd.prog Tryd.f4 [] false w args ∧ laidMetH Tryd.prog laid2t w) ∧ sizedMet enc Tryd.prog Tryd.f4 (OpenSpec.ofChange Rows.fnExactWordsOfSpec) false w args)
      (Rows.fnExactWordsOfSpec.post enc Tryd.prog Tryd.f4 false true false false) := by
  refine returnsInHanded_of_change_and (C := Tryd.checked) (X := fun w _ => laidMetH Tryd.prog laid2t w) (fun _ _ _ hh h => h.of_heap hh) own started (by kernel_rfl) Tryd.func4
    (ChangeSpec.witness_shaped (enc := enc) (C := Tryd.checked) (os := os) (X := fun w _ => laidMetH Tryd.prog laid2t w) false (World.laidAll Tryd.prog os laid2t) #[.string ⟨#[]⟩] 8 (World.laidAll_os _ _ _) (World.shaped_of_ZipB (by kernel_rfl) (by kernel_rfl)) (by kernel_rfl) (by kernel_rfl) (by kernel_rfl)
      (by rw [MakeChecks.laidMetH_plain _ _ _ (by kernel_rfl)]; exact laidMet_laidAll _ (by kernel_rfl) (by kernel_rfl))) ?_
  intro W base args ds gs before hval0 hW _ _ hL _
  have hval : ∀ (j : Nat) t v, Tryd.f4.params[j]? = some t → args[j]? = some v → Value.okWide Tryd.prog W .any base t v := hval0
  have hW' := hW
  obtain ⟨p, q, hA0, hV, rfl, hfz, hnd⟩ := hW
  have hA : DataW.TrodAll enc Tryd.prog W 0 (fun _ => true) true Tryd.f4.params.toList args.toList ds p := hA0
  rw [Tryd.params4] at hA hval
  obtain ⟨v0, vs0, d0, ds0, p0, q0, hargs, rfl, rfl, h0, r0⟩ := trodAll_cons hA
  obtain ⟨rfl, rfl, rfl⟩ := trodAll_nil r0
  obtain rfl : args = #[v0] := by cases args; simp_all
  obtain ⟨rfl, rfl⟩ := trodVars_none hV
  obtain ⟨a0, rfl, rfl, rfl, w0⟩ := Go.ChangeMaps.open_string Tryd.underlying9 (hval 0 9 v0 rfl rfl) h0
  clear hA0 hval0
  refine (walk a0 W w0 True.intro).mono fun e W' ⟨he, bel⟩ => ?_
  subst he
  exact ⟨_, rfl, _, _, _, [], _, [], hW', trodAll_mk1 (shut_bool Tryd.underlying4 _), (trodAll_cons_mk (Go.ChangeMaps.shut_string Tryd.underlying9 w0) trodAll_mk0), rfl, bel.frame _, fun h => by cases h⟩

theorem over : Rows.FnExactWordsOfSaid :=
  OpenClaim.holds_of_wide 4 Tryd.f4 rfl rfl rfl rfl rfl rfl rfl ⟨rfl, rfl, rfl, rfl, rfl⟩ rfl rfl rfl rfl rfl (by kernel_rfl) Tryd.func4 (by kernel_rfl)
    (of_decide_eq_true (by kernel_rfl)) (by unfold Func.isWrapper; first | (rw [if_pos (by decide +kernel)]; kernel_rfl) | (rw [if_neg (by decide +kernel)]; exact ⟨rfl, rfl⟩))
    (fun os started H enc _ => lifted os started H enc)

/-- The statement: the tied card. -/
theorem proved : Rows.FnExactWordsOfCardSaid :=
  Claim7.holds_tied_plain_at .later [] [.data, .pinned] true (true, "b4ff2abf42c82de64edaba61cb364a2e0ae132760394bf979e47db4b6f9b2c16") false
    over (fun _ h => by cases h) (by kernel_rfl) (fun _ h => by cases h) fnExactWordsOf_row_tie rfl ⟨rfl, rfl⟩ (by kernel_rfl) rfl
    (fun f fn hf hfn => by
      obtain rfl : f = 4 := Option.some.inj ((show Tryd.prog.funcNamed "loop.example/g00383/laws.FnExactWordsOf" = some 4 by kernel_rfl).symm.trans hf) |>.symm
      obtain rfl : fn = Tryd.f4 := (Option.some.inj (Tryd.func4.symm.trans hfn)).symm
      exact ⟨by kernel_rfl, fun j t ht => by
        rw [Tryd.params4] at ht
        have hm : t ∈ [9] := by simpa using Array.mem_of_getElem? ht
        have hall : ([9].all fun u => !Tryd.prog.wantsStandIn u) = true := by kernel_rfl
        exact (show Tryd.prog.wantsStandIn t = false by simpa using List.all_eq_true.1 hall t hm)⟩)
    (by kernel_rfl)
#print axioms proved
end Go.Proofs.YtpkfgffgldjceaaDoor.fnExactWordsOf
