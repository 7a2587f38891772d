/- What is proved here: what HashText answers, of the program and of the model. -/
import Derived.Test.YtjdeobifhgdffaaDoorKcV
import Derived.Test.YtjdeobifhgdffaaDoorKcJ
import Derived.Test.YtjdeobifhgdffaaDoorHexOfImpl
namespace Go.Proofs.YtjdeobifhgdffaaDoor
open Go.RowKit
set_option linter.unusedVariables false

/-- The text of a hash. -/
def htText (zs : List Int) : ByteArray := if 1200 < zs.length then strOfNums [] else strOfNums (hexEnc (kcBytes zs))

set_option maxHeartbeats 2000000 in
theorem specHT_any (a : Option Addr) (n cap : Nat) (zs : List Int) (w : World) (h : BRow w a n zs) (hcap : a = none → cap = 0) (hn : n ≤ 1048576) :
    Calls Tryd.prog 28 #[.slice a n cap] w fun e w' => e = .returned (.agg #[.int .i64 (kcCode zs), .string (htText zs)]) ∧ Below w.heap.size w w' := by
  have hzl := h.1
  obtain ⟨w0, hw0⟩ : ∃ w0, w0 = w.alloc (.cells #[.int .i64 0, .string (strOfNums [])] 30) := ⟨_, rfl⟩
  have e0 : w.alloc (.cells #[.int .i64 0, .string { data := #[] }] 30) = w0 := hw0.symm
  have hb0 : Below w.heap.size w w0 := by rw [hw0]; exact below_alloc w _
  have hres : w0.heap[w.heap.size]? = some (.cells #[.int .i64 0, .string (strOfNums [])] 30 (0, 0)) := by
    rw [hw0]
    show (w.heap.push _)[w.heap.size]? = _
    simp
  have hs0 : w.heap.size < w0.heap.size := lt_of_block hres
  clear hw0
  by_cases hm : 1200 < n
  · have e1 : kcCode zs = 2 := if_pos (by omega)
    have e2 : htText zs = strOfNums [] := if_pos (by omega)
    rw [e1, e2]
    obtain ⟨q0, q1, f0, f1⟩ := res_facts hres
    clear h e1 e2 hres
    go_enter Tryd.func28, Tryd.ntmps28
    go_wp2_with (rw [e0])
    exact bodyPost_ret (v := .agg #[.int .i64 2, .string (strOfNums [])]) (by simp [results, Tryd.results28, go_sem, q0, q1, strOfNums]) rfl ⟨rfl, (hb0.setCell (by simp) _).setCell (by simp) _⟩
  · have e1 : kcCode zs = 0 := if_neg (by omega)
    have e2 : htText zs = strOfNums (hexEnc (kcBytes zs)) := if_neg (by omega)
    have e4 : kcBytes zs = hashOf (spAt (padB zs) (padLen n / 136)) := by unfold kcBytes; rw [if_neg (by omega), hzl]
    have hrg := kcBytes_range zs h.2.1
    rw [e4] at hrg
    rw [e1, e2, e4]
    have HK := hide (l2Keccak_any a n cap zs w0 (h.below hb0 (Nat.le_refl _)) hcap (by omega))
    have HRG := hide hrg
    clear h e1 e2 e4 hrg
    generalize hashOf (spAt (padB zs) (padLen n / 136)) = L at HK HRG ⊢
    have HB := hide hb0
    have HR := hide hres
    clear hb0 hres
    go_enter Tryd.func28, Tryd.ntmps28
    go_wp2_with (rw [e0])
    refine (unhide HK).mono ?_
    rintro e w2 ⟨g, c, rfl, hown, k2⟩
    have r2 := BRow.own hown (unhide HRG)
    go_wp2_with fail
    refine (l1Hex_any _ 32 c L _ r2 (by omega)).mono ?_
    rintro e w' ⟨rfl, n3, rfl⟩
    have k3 := below_drewN k2 n3
    have G3 := (unhide HB).trans (k3.mono (unhide HB).size)
    have R3 := (k3.block _ hs0).trans (unhide HR)
    obtain ⟨q0, q1, f0, f1⟩ := res_facts R3
    clear k2 k3 r2 hown R3
    generalize w2.drewN n3 = w3 at q0 q1 f0 f1 G3
    generalize hS : strOfNums (hexEnc L) = S
    have HS := hide hS
    clear hS
    go_wp2_with fail
    exact bodyPost_ret (v := .agg #[.int .i64 0, .string S]) (by simp [results, Tryd.results28, go_sem, q0, q1]) rfl ⟨by rw [unhide HS], (G3.setCell (by simp) _).setCell (by simp) _⟩

set_option maxHeartbeats 2000000 in
theorem implHT_any (a : Option Addr) (n cap : Nat) (zs : List Int) (w : World) (h : BRow w a n zs) (hcap : a = none → cap = 0) (hn : n ≤ 1048576) (hv : Laid w) :
    Calls Tryd.prog 13 #[.slice a n cap] w fun e w' => e = .returned (.agg #[.int .i64 (kcCode zs), .string (htText zs)]) ∧ Below w.heap.size w w' := by
  have hzl := h.1
  obtain ⟨w0, hw0⟩ : ∃ w0, w0 = w.alloc (.cells #[.int .i64 0, .string (strOfNums [])] 30) := ⟨_, rfl⟩
  have e0 : w.alloc (.cells #[.int .i64 0, .string { data := #[] }] 30) = w0 := hw0.symm
  have hb0 : Below w.heap.size w w0 := by rw [hw0]; exact below_alloc w _
  have hres : w0.heap[w.heap.size]? = some (.cells #[.int .i64 0, .string (strOfNums [])] 30 (0, 0)) := by
    rw [hw0]
    show (w.heap.push _)[w.heap.size]? = _
    simp
  have hs0 : w.heap.size < w0.heap.size := lt_of_block hres
  have HK := hide (implKc_any a n cap zs w0 (h.below hb0 (Nat.le_refl _)) hcap hn (hv.below hb0 (Nat.le_refl _)))
  have HRG := hide (kcBytes_range zs h.2.1)
  have hkl := kcBytes_length zs
  clear hw0 hv h
  have HB := hide hb0
  have HR := hide hres
  clear hb0 hres
  by_cases hm : 1200 < n
  · have e1 : kcCode zs = 2 := if_pos (by omega)
    have e2 : htText zs = strOfNums [] := if_pos (by omega)
    rw [e1, e2]
    rw [e1] at HK
    generalize kcBytes zs = L at HK HRG hkl
    generalize L.length = l at HK hkl
    clear e1 e2
    go_enter Tryd.func13, Tryd.ntmps13
    go_wp2_with (rw [e0])
    refine (unhide HK).mono ?_
    rintro e w2 ⟨a2, c2, rfl, hown, k2⟩
    obtain ⟨k3, s3, p0, p1⟩ := new2 w2 (.int .i64 2) (.slice a2 l c2) 26
    obtain ⟨w3, e3⟩ : ∃ w3, w2.alloc (Obj.cells #[Value.int IntKind.i64 2, Value.slice a2 l c2] 26) = w3 := ⟨_, rfl⟩
    rw [e3] at k3 s3 p0 p1
    have k23 := k2.trans (k3.mono k2.size)
    have G3 := (unhide HB).trans (k23.mono (unhide HB).size)
    have R3 := (k23.block _ hs0).trans (unhide HR)
    obtain ⟨q0, q1, f0, f1⟩ := res_facts R3
    have HG := hide G3
    clear k2 k3 k23 R3 G3 hown
    go_wp2_with (rw [e3])
    exact bodyPost_ret (v := .agg #[.int .i64 2, .string (strOfNums [])]) (by simp [results, Tryd.results13, go_sem, q0, q1, strOfNums]) rfl ⟨rfl, ((unhide HG).setCell (by simp) _).setCell (by simp) _⟩
  · have e1 : kcCode zs = 0 := if_neg (by omega)
    have e2 : htText zs = strOfNums (hexEnc (kcBytes zs)) := if_neg (by omega)
    rw [e1, e2]
    rw [e1] at HK
    have hc0 : hoCode (kcBytes zs) = 0 := if_neg (by omega)
    have ht0 : hoText (kcBytes zs) = strOfNums (hexEnc (kcBytes zs)) := if_neg (by omega)
    have HX := hide (fun (a : Option Addr) (c : Nat) (W : World) (hW : BRow W a (kcBytes zs).length (kcBytes zs)) => implHexOf_any a _ c (kcBytes zs) W hW (by omega))
    rw [hc0, ht0] at HX
    generalize kcBytes zs = L at HK HRG hkl HX ⊢
    generalize hl : L.length = l at HK hkl HX
    clear e1 e2 hc0 ht0 hl
    generalize hS : strOfNums (hexEnc L) = S at HX
    have HS := hide hS
    clear hS
    go_enter Tryd.func13, Tryd.ntmps13
    go_wp2_with (rw [e0])
    refine (unhide HK).mono ?_
    rintro e w2 ⟨a2, c2, rfl, hown, k2⟩
    obtain ⟨k3, s3, p0, p1⟩ := new2 w2 (.int .i64 0) (.slice a2 l c2) 26
    obtain ⟨w3, e3⟩ : ∃ w3, w2.alloc (Obj.cells #[Value.int IntKind.i64 0, Value.slice a2 l c2] 26) = w3 := ⟨_, rfl⟩
    rw [e3] at k3 s3 p0 p1
    have k23 := k2.trans (k3.mono k2.size)
    have HK23 := hide k23
    have HB3 := hide ((BRow.own2 hown (unhide HRG)).below k3 (Nat.le_refl _))
    clear k2 k3 k23 hown
    go_wp2_with (rw [e3])
    refine ((unhide HX) _ _ _ (unhide HB3)).mono ?_
    rintro e w4 ⟨rfl, b4⟩
    have k4 := (unhide HK23).trans (b4.mono (unhide HK23).size)
    have G4 := (unhide HB).trans (k4.mono (unhide HB).size)
    have R4 := (k4.block _ hs0).trans (unhide HR)
    obtain ⟨q0, q1, f0, f1⟩ := res_facts R4
    have HG := hide G4
    clear b4 k4 R4 G4
    go_wp2_with fail
    exact bodyPost_ret (v := .agg #[.int .i64 0, .string S]) (by simp [results, Tryd.results13, go_sem, q0, q1]) rfl ⟨rfl, ((unhide HG).setCell (by simp) _).setCell (by simp) _⟩

end Go.Proofs.YtjdeobifhgdffaaDoor
