/- What is proved here: the contract of the laws' helper function that writes marks into items (markItemS), for items that the call itself made: it changes their blocks alone. -/
import Derived.Test.YtkibdgmgjnoblaaChecked
import Derived.Test.YtkibdgmgjnoblaaBase
import Derived.Test.YtkibdgmgjnoblaaMark
import Derived.Test.YtkibdgmgjnoblaaOwnG
import Derived.Test.YtkibdgmgjnoblaaItO
import Derived.WalkKit
import Derived.WalkLawsBesides
import Derived.WalkSmall
import Derived.KernelRfl
import Derived.WalkSpells
namespace Go.Proofs.Ytkibdgmgjnoblaa
open Go.RowKit
set_option linter.unusedVariables false

/-- Items that are being marked: their slices stay, the bytes from place k on are as they were. -/
def MUpto (w : World) (g : Nat) (its : List It) (k : Nat) (T : TypeId) (C : Nat) : Prop :=
  ∃ (vs : List Value) (f : Nat → Nat), VBlk w g vs T ∧ vs.length = its.length * 3 ∧ (∀ i, i < its.length → g < f i ∧ f i < C) ∧ (∀ i j, i < j → j < its.length → f i < f j) ∧
    ∀ i it, its[i]? = some it → vs[i * 3 + 2]? = some (.slice (some ⟨f i, 0, none⟩) it.z.length it.z.length) ∧
      (k ≤ i → w.ownsRow (g + 1) 5 1 (.slice (some ⟨f i, 0, none⟩) it.z.length it.z.length) it.z.length (it.z.map (Value.int .u8)))

theorem OIts.marks {w : World} {g : Nat} {its : List It} {T : TypeId} {C : Nat} (h : OIts w g its T C) : MUpto w g its 0 T C := by
  obtain ⟨vs, f, h1, h2, h3, h4, h5⟩ := h
  refine ⟨vs, f, h1, h2, h3, h4, fun i it hi => ?_⟩
  have hil := (List.getElem?_eq_some_iff.1 hi).1
  obtain ⟨_, _, q3, q4⟩ := h5 i it hil hi
  exact ⟨q3, fun _ => q4⟩

/-- Nothing has changed but blocks from B on and below C. -/
def OnlyIn (B C : Nat) (w w' : World) : Prop := Below B w w' ∧ ∀ k, C ≤ k → k < w.heap.size → w'.heap[k]? = w.heap[k]?

theorem OnlyIn.refl (B C : Nat) (w : World) : OnlyIn B C w w := ⟨Below.refl _ _, fun _ _ _ => rfl⟩

theorem OnlyIn.cell {B C : Nat} {w w' : World} (h : OnlyIn B C w w') {p : Addr} (hp : C ≤ p.block) (hl : p.block < w.heap.size) : w'.cell? p = w.cell? p := World.cell?_of_block (w := w) (h.2 p.block hp hl)

theorem OnlyIn.own {B C D : Nat} {w w' : World} (h : OnlyIn B C w w') {e : TypeId} {size n : Nat} {v : Value} {xs : List Value} (ho : w.ownsRow D e size v n xs) (hD : C ≤ D) : w'.ownsRow D e size v n xs := by
  refine ⟨ho.1, ?_⟩
  rcases ho.2 with h' | ⟨g, cap, cur, h1, h2, h3, h4⟩
  · exact .inl h'
  · exact .inr ⟨g, cap, cur, h1, h2, by rw [h.2 g (Nat.le_trans hD h2) (lt_of_block h3)]; exact h3, h4⟩

/-- One item more is marked. -/
theorem MUpto.step {w0 w w3 : World} {g fk k : Nat} {its : List It} {T : TypeId} {C : Nat} {it : It} {u v : Value} (h : MUpto w g its k T C) (hit : its[k]? = some it) (hC : g < C) (ho : OnlyIn g C w0 w)
    (hfk : w.cell? ⟨g, k * 3 + 2, none⟩ = some (.slice (some ⟨fk, 0, none⟩) it.z.length it.z.length)) (hg : ((w.setCell ⟨g, k * 3, none⟩ u).setCell ⟨g, k * 3 + 1, none⟩ v).grownBy w3 (some fk)) :
    MUpto w3 g its (k + 1) T C ∧ OnlyIn g C w0 w3 := by
  obtain ⟨vs, f, h1, h2, h3, h4, h5⟩ := h
  have hkl := (List.getElem?_eq_some_iff.1 hit).1
  obtain ⟨q1, _⟩ := h5 k it hit
  have efk : fk = f k := by
    rw [h1.cell, q1] at hfk
    simp only [Option.some.injEq, Value.slice.injEq, Addr.mk.injEq, and_true] at hfk
    exact hfk.symm
  subst efk
  obtain ⟨b1, b2⟩ := h3 k hkl
  have hv : VBlk ((w.setCell ⟨g, k * 3, none⟩ u).setCell ⟨g, k * 3 + 1, none⟩ v) g ((vs.set (k * 3) u).set (k * 3 + 1) v) T := (h1.set _ _).set _ _
  have hgl : g < ((w.setCell ⟨g, k * 3, none⟩ u).setCell ⟨g, k * 3 + 1, none⟩ v).heap.size := hv.lt
  have hv3 : VBlk w3 g ((vs.set (k * 3) u).set (k * 3 + 1) v) T := by
    unfold VBlk
    rw [hg.block g hgl (fun e => by cases e; exact absurd b1 (Nat.lt_irrefl _))]
    exact hv
  refine ⟨⟨_, f, hv3, by simp [h2], h3, h4, fun i jt hjt => ?_⟩, ?_, fun m hm hml => ?_⟩
  · have hil := (List.getElem?_eq_some_iff.1 hjt).1
    obtain ⟨p1, p2⟩ := h5 i jt hjt
    refine ⟨?_, fun hki => ?_⟩
    · rw [List.getElem?_set_ne (by omega), List.getElem?_set_ne (by omega)]; exact p1
    · have o1 := ownsRow_setCell_below (ownsRow_setCell_below (p2 (by omega)) (a := ⟨g, k * 3, none⟩) (Nat.lt_succ_self g) u) (a := ⟨g, k * 3 + 1, none⟩) (Nat.lt_succ_self g) v
      exact own_grown o1 hg (fun r hr e => by
        have hr' : r = f i := by simpa [Value.ownBlock] using hr.symm
        have he : r = f k := by simpa using e
        have := h4 k i (by omega) hil
        omega)
  · have s1 : Below g w ((w.setCell ⟨g, k * 3, none⟩ u).setCell ⟨g, k * 3 + 1, none⟩ v) := ((Below.refl g w).setCell (Nat.le_refl _) _).setCell (Nat.le_refl _) _
    exact ho.1.trans (s1.grown hg (Nat.le_of_lt hgl) (fun r e => by cases e; omega))
  · have hms : m < ((w.setCell ⟨g, k * 3, none⟩ u).setCell ⟨g, k * 3 + 1, none⟩ v).heap.size := by rw [size_set, size_set]; exact Nat.lt_of_lt_of_le hml ho.1.size
    rw [hg.block m hms (fun e => by cases e; omega), heap_setCell_other _ _ _ _ (by show m ≠ g; omega), heap_setCell_other _ _ _ _ (by show m ≠ g; omega)]
    exact ho.2 m hm hml

/-- How many marks items take. -/
def markN (its : List It) : Nat := its.length * 2 + bytesOf its

theorem markN_step (its : List It) (k : Nat) (it : It) (h : its[k]? = some it) : (markN (its.take (k + 1)) : Int) = markN (its.take k) + 1 + 1 + it.z.length := by
  obtain ⟨hk, e⟩ := List.getElem?_eq_some_iff.1 h
  rw [List.take_succ_eq_append_getElem hk, e]
  simp [markN, bytesOf]
  omega

theorem markN_le (its : List It) (k : Nat) : markN (its.take k) ≤ markN its := by
  have : markN its = markN (its.take k) + markN (its.drop k) := by
    conv => lhs; rw [← List.take_append_drop k its]
    simp only [markN, bytesOf, List.length_append, List.map_append, List.sum_append]
    omega
  omega

set_option maxHeartbeats 2000000 in
theorem markItemS_any (g : Nat) (its : List It) (k0 : Int) (C : Nat) (w : World) (h : OIts w g its 32 C) (hC : g < C) (hl : its.length ≤ 1048576) (hb : bytesOf its ≤ 1048576) (h0 : 0 ≤ k0) (h1 : k0 ≤ 1048576) :
    Calls Try.prog 20 #[.slice (some ⟨g, 0, none⟩) its.length its.length, .int .i64 k0] w fun e w' => e = .returned (.int .i64 (k0 + markN its)) ∧ OnlyIn g C w w' := by
  have hm := h.marks
  have hmn : markN its ≤ 3145728 := by unfold markN; omega
  have HLE := hide (markN_le its)
  obtain ⟨len, hlen⟩ : ∃ len, len = its.length := ⟨_, rfl⟩
  rw [← hlen] at hl ⊢
  have HL := hide hlen
  clear h hlen
  go_enter Try.func20, Try.ntmps20
  go_wp2_with fail
  go_loopw [1, 5] (fun q i wr => ∃ k : Nat, k ≤ len ∧ i = .int .i64 k ∧ q = .int .i64 (k0 + markN (its.take k)) ∧ MUpto wr g its k 32 C ∧ OnlyIn g C w wr) (fun _ i _ => len - (intOf i).toNat)
  case atStart => exact ⟨0, Nat.zero_le _, rfl, by simp [markN, bytesOf], hm, OnlyIn.refl _ _ _⟩
  case round =>
    obtain ⟨k, hk, rfl, rfl, hup, hon⟩ := hrel
    clear hm
    by_cases hlt : k < len
    · obtain ⟨it, hit⟩ : ∃ it, its[k]? = some it := ⟨_, List.getElem?_eq_getElem (by rw [← unhide HL]; exact hlt)⟩
      have hstp := markN_step its k it hit
      have hle1 := (unhide HLE) k
      have hle2 := (unhide HLE) (k + 1)
      obtain ⟨fk, c2, hown, e0, e1, hfz⟩ : ∃ fk, wr.cell? ⟨g, k * 3 + 2, none⟩ = some (.slice (some ⟨fk, 0, none⟩) it.z.length it.z.length) ∧
          wr.ownsRow (g + 1) 5 1 (.slice (some ⟨fk, 0, none⟩) it.z.length it.z.length) it.z.length (it.z.map (Value.int .u8)) ∧ (∃ u, wr.cell? ⟨g, k * 3, none⟩ = some u) ∧ (∃ u, wr.cell? ⟨g, k * 3 + 1, none⟩ = some u) ∧ ∀ i, wr.frozen? ⟨g, i, none⟩ = false := by
        obtain ⟨vs, f, q1, q2, q3, q4, q5⟩ := hup
        obtain ⟨p1, p2⟩ := q5 k it hit
        have hkl := (List.getElem?_eq_some_iff.1 hit).1
        refine ⟨f k, by rw [q1.cell]; exact p1, p2 (Nat.le_refl _), ?_, ?_, fun i => q1.free i⟩
        all_goals
          rw [q1.cell]
          exact ⟨_, List.getElem?_eq_getElem (by omega)⟩
      obtain ⟨u0, e0⟩ := e0
      obtain ⟨u1, e1⟩ := e1
      have HSTEP := hide (fun (u v : Value) (w3 : World) (hg : ((wr.setCell ⟨g, k * 3, none⟩ u).setCell ⟨g, k * 3 + 1, none⟩ v).grownBy w3 (some fk)) => hup.step hit hC hon c2 hg)
      have HOWN := hide (fun (u v : Value) => ownsRow_setCell_below (ownsRow_setCell_below hown (a := ⟨g, k * 3, none⟩) (Nat.lt_succ_self g) u) (a := ⟨g, k * 3 + 1, none⟩) (Nat.lt_succ_self g) v)
      have hzl : it.z.length ≤ 2097152 := by have := bytesOf_mem (List.mem_of_getElem? hit); omega
      have HK := hide hstp
      generalize it.z.length = zl at c2 HOWN HSTEP hzl HK hstp
      generalize it.z = zz at HOWN
      have i1 : (0 : Int) ≤ (k : Int) := by omega
      have i2 : (k : Int) < (len : Int) := by omega
      generalize hmk : ((markN (its.take k) : Nat) : Int) = mk at HK hstp
      have hmk0 : 0 ≤ mk := by omega
      have hmk1 : mk ≤ 3145728 := by omega
      clear hup hon hown hit hstp hle1 hle2 hmk
      go_wp2_with fail
      refine (markByteS_any (g + 1) fk zl zl zz (k0 + mk + 1 + 1) _ ((unhide HOWN) _ _) hzl (by omega) (by omega)).mono ?_
      rintro e w3 ⟨rfl, _, hg3⟩
      obtain ⟨hs1, hs2⟩ := (unhide HSTEP) _ _ w3 hg3
      have HS1 := hide hs1
      have HS2 := hide hs2
      clear hs1 hs2 hg3
      go_wp2_with fail
      go_roundw
      case rel => exact ⟨k + 1, by omega, by go_num, by rw [unhide HK]; go_num, unhide HS1, unhide HS2⟩
      case measure => simp [intOf]; omega
    · obtain rfl : k = len := by omega
      have e : its.take k = its := List.take_of_length_le (by rw [← unhide HL]; exact Nat.le_refl _)
      rw [e]
      have HO := hide hon
      clear e hup hon
      go_wp2_with fail
      go_ret
      exact ⟨rfl, unhide HO⟩

end Go.Proofs.Ytkibdgmgjnoblaa
