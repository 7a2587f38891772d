/- What is proved here: the contracts of the laws' helper functions that mark a header's bytes (markByteSS, markHeader): they write into its own blocks alone. -/
import Derived.Test.YtlenpjbkbjdbeaaHdT
import Derived.Test.YtlenpjbkbjdbeaaHdS
import Derived.Test.YtlenpjbkbjdbeaaMark
import Derived.Test.YtlenpjbkbjdbeaaOwnG
namespace Go.Proofs.Ytlenpjbkbjdbeaa
open Go.RowKit
set_option linter.unusedVariables false

/-- Nothing is written below B, nor from C on. -/
def OnlyH (B C : Nat) (w w' : World) : Prop := Below B w w' ∧ ∀ k, C ≤ k → k < w.heap.size → w'.heap[k]? = w.heap[k]?

theorem OnlyH.refl (B C : Nat) (w : World) : OnlyH B C w w := ⟨Below.refl _ _, fun _ _ _ => rfl⟩

theorem OnlyH.trans {B C : Nat} {a b c : World} (h : OnlyH B C a b) (k : OnlyH B C b c) : OnlyH B C a c :=
  ⟨h.1.trans k.1, fun q hq hl => (k.2 q hq (Nat.lt_of_lt_of_le hl h.1.size)).trans (h.2 q hq hl)⟩

theorem OnlyH.mono {B B' C C' : Nat} {a b : World} (h : OnlyH B C a b) (hB : B' ≤ B) (hC : C ≤ C') : OnlyH B' C' a b := ⟨h.1.mono hB, fun q hq hl => h.2 q (by omega) hl⟩

theorem OnlyH.grown {a b : World} {g : Nat} (B : Nat) (hg : a.grownBy b (some g)) (h : Below B a b) : OnlyH B (g + 1) a b := ⟨h, fun q hq hl => hg.block q hl (fun e => by have := Option.some.inj e; omega)⟩

theorem OnlyH.cell {B C : Nat} {w w' : World} (h : OnlyH B C w w') {p : Addr} (hp : C ≤ p.block) (hl : p.block < w.heap.size) : w'.cell? p = w.cell? p := World.cell?_of_block (w := w) (h.2 p.block hp hl)

theorem OnlyH.own {B C D : Nat} {w w' : World} (h : OnlyH B C w w') {e : TypeId} {size n : Nat} {v : Value} {xs : List Value} (ho : w.ownsRow D e size v n xs) (hD : C ≤ D) : w'.ownsRow D e size v n xs := by
  refine ⟨ho.1, ?_⟩
  rcases ho.2 with h' | ⟨g, cap, cur, h1, h2, h3, h4⟩
  · exact .inl h'
  · exact .inr ⟨g, cap, cur, h1, h2, (h.2 g (by omega) (lt_of_block h3)).trans h3, h4⟩

theorem OnlyH.sblk {B C : Nat} {w w' : World} (h : OnlyH B C w w') {g : Nat} {vs : List Value} {T : TypeId} (hs : SBlk w g vs T) (hg : C ≤ g) : SBlk w' g vs T := (h.2 g hg hs.lt).trans hs

/-- One slice of bytes is marked. -/
theorem markB_only (g n : Nat) (zs : List Int) (k0 : Int) (w : World) (h : w.ownsRow g 5 1 (.slice (some ⟨g, 0, none⟩) n n) n (zs.map (Value.int .u8))) (hn : n ≤ 1048576) (hk0 : 0 ≤ k0) (hk1 : k0 ≤ 1099511627776) :
    Calls Try.prog 31 #[.slice (some ⟨g, 0, none⟩) n n, .int .i64 k0] w fun e w' => e = .returned (.int .i64 (k0 + n)) ∧ OnlyH g (g + 1) w w' :=
  (markByteS_any g g n n zs k0 w h (by omega) hk0 hk1).mono fun e w' ⟨he, _, hg⟩ => ⟨he, OnlyH.grown g hg ((Below.refl g w).grown hg (by have := (h.lt g rfl).2; omega) (fun k e => by have := Option.some.inj e; omega))⟩

/-- Slices of slices of bytes: those from k on are as they were. -/
def MBs (w : World) (g : Nat) (zss : List (List Int)) (k : Nat) (T : TypeId) (C : Nat) : Prop :=
  ∃ (vs : List Value) (f : Nat → Nat), SBlk w g vs T ∧ vs.length = zss.length ∧ (∀ i, i < zss.length → g < f i ∧ f i < C) ∧ (∀ i j, i < j → j < zss.length → f i < f j) ∧
    ∀ i z, k ≤ i → zss[i]? = some z → vs[i]? = some (.slice (some ⟨f i, 0, none⟩) z.length z.length) ∧ w.ownsRow (g + 1) 5 1 (.slice (some ⟨f i, 0, none⟩) z.length z.length) z.length (z.map (Value.int .u8))

theorem OBss.mbs {w : World} {g : Nat} {zss : List (List Int)} {T : TypeId} {C : Nat} (h : OBss w g zss T C) : MBs w g zss 0 T C := by
  obtain ⟨vs, f, h1, h2, h3, h4, h5⟩ := h
  exact ⟨vs, f, h1, h2, h3, h4, fun i z _ hz => h5 i z (List.getElem?_eq_some_iff.1 hz).1 hz⟩

theorem bsum_snoc (zss : List (List Int)) (k : Nat) (z : List Int) (h : zss[k]? = some z) : bsum (zss.take (k + 1)) = bsum (zss.take k) + z.length := by
  obtain ⟨hk, e⟩ := List.getElem?_eq_some_iff.1 h
  unfold bsum
  rw [List.take_succ_eq_append_getElem hk, e]
  simp

theorem bsum_le (zss : List (List Int)) (k : Nat) : bsum (zss.take k) ≤ bsum zss := by
  have : zss = zss.take k ++ zss.drop k := (List.take_append_drop k zss).symm
  have e : bsum zss = bsum (zss.take k) + bsum (zss.drop k) := by
    unfold bsum
    rw [← List.sum_append, ← List.map_append, List.take_append_drop]
  omega

set_option maxHeartbeats 4000000 in
theorem markSS_any (g : Nat) (zss : List (List Int)) (T : TypeId) (C : Nat) (k0 : Int) (w : World) (h : OBss w g zss T C) (hC : g < C) (hl : zss.length ≤ 1048576) (hs : bsum zss ≤ 1048576) (hk0 : 0 ≤ k0) (hk1 : k0 ≤ 16777216) :
    Calls Try.prog 32 #[.slice (some ⟨g, 0, none⟩) zss.length zss.length, .int .i64 k0] w fun e w' => e = .returned (.int .i64 (k0 + bsum zss)) ∧ OnlyH (g + 1) C w w' := by
  have hm := OBss.mbs h
  have hgl : g < w.heap.size := BUpto.lt h
  clear h
  have HSN := hide (bsum_snoc zss)
  have HLE := hide (bsum_le zss)
  obtain ⟨len, hlen⟩ : ∃ len, len = zss.length := ⟨_, rfl⟩
  have HLEN := hide hlen
  rw [← hlen] at hl ⊢
  clear hlen
  have HM := hide hm
  clear hm
  go_enter Try.func32, Try.ntmps32
  go_wp2_with fail
  go_loopw [1, 5] (fun q i wr => ∃ k : Nat, k ≤ len ∧ i = .int .i64 k ∧ q = .int .i64 (k0 + (bsum (zss.take k) : Nat)) ∧ MBs wr g zss k T C ∧ OnlyH (g + 1) C w wr) (fun _ i _ => len - (intOf i).toNat)
  case atStart => exact ⟨0, Nat.zero_le _, rfl, by simp [bsum], unhide HM, OnlyH.refl _ _ _⟩
  case round =>
    obtain ⟨k, hk, rfl, rfl, hm, ho⟩ := hrel
    clear HM
    by_cases hlt : k < len
    · obtain ⟨z, hit⟩ : ∃ z, zss[k]? = some z := ⟨_, List.getElem?_eq_getElem (by rw [← unhide HLEN]; exact hlt)⟩
      obtain ⟨vs, f, h1, h2, h3, h4, h5⟩ := hm
      have hkz : k < zss.length := by rw [← unhide HLEN]; exact hlt
      obtain ⟨c0, r0⟩ := h5 k z (Nat.le_refl _) hit
      have hc := (h1.cell k).trans c0
      have hsn := (unhide HSN) k z hit
      have hle1 := (unhide HLE) (k + 1)
      have hzl : z.length ≤ 1048576 := by omega
      obtain ⟨ks, hks⟩ : ∃ ks, ks = bsum (zss.take k) := ⟨_, rfl⟩
      rw [← hks] at hsn ⊢
      have hksl : ks ≤ 1048576 := by omega
      have HC := hide (markByteS_any (g + 1) (f k) z.length z.length z (k0 + ks) wr r0 (by omega) (by omega) (by omega))
      have HST : Hid (∀ w', wr.grownBy w' (some (f k)) → MBs w' g zss (k + 1) T C ∧ OnlyH (g + 1) C w w') := fun w' hg => by
        have hfk := h3 k hkz
        have hb : Below (g + 1) wr w' := (Below.refl (g + 1) wr).grown hg (by have := h1.lt; omega) (fun q e => by have := Option.some.inj e; omega)
        refine ⟨⟨vs, f, h1.below hb (by omega), h2, h3, h4, fun i y hi hy => ?_⟩, ho.trans ⟨hb, fun q hq hl => hg.block q hl (fun e => by have := Option.some.inj e; omega)⟩⟩
        obtain ⟨q1, q2⟩ := h5 i y (by omega) hy
        have hil := (List.getElem?_eq_some_iff.1 hy).1
        have hlt2 := h4 k i (by omega) hil
        exact ⟨q1, own_grown q2 hg (fun b e e2 => by simp [Value.ownBlock] at e; have := Option.some.inj e2; omega)⟩
      have HSN2 : Hid (bsum (zss.take (k + 1)) = ks + z.length) := hsn
      have k1 : (0 : Int) ≤ (k : Int) := by omega
      have k2 : (k : Int) < (len : Int) := by omega
      generalize f k = fk at hc HC HST
      generalize z.length = zl at hc HC HSN2 hzl
      clear h1 h2 h3 h4 h5 c0 r0 hsn hle1 hit ho hks
      go_wp2_with fail
      refine (unhide HC).mono ?_
      rintro e w2 ⟨rfl, _, g2⟩
      obtain ⟨m2, o2⟩ := (unhide HST) w2 g2
      have HM2 := hide m2
      have HO2 := hide o2
      clear m2 o2 g2
      go_wp2_with fail
      go_roundw
      case rel => exact ⟨k + 1, by omega, by go_num, by rw [unhide HSN2]; congr 1; omega, unhide HM2, unhide HO2⟩
      case measure => simp [intOf]; omega
    · obtain rfl : k = len := by omega
      have et : zss.take k = zss := List.take_of_length_le (by rw [← unhide HLEN]; exact Nat.le_refl _)
      rw [et]
      have HO := hide ho
      clear hm ho et
      go_wp2_with fail
      go_ret
      exact ⟨rfl, unhide HO⟩

end Go.Proofs.Ytlenpjbkbjdbeaa
