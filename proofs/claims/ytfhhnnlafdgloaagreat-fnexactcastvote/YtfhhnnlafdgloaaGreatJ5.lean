/- What is proved here: the contracts of the laws' helper functions that mark a list or a header that a call made, and look for the marks later (markByteSS, markHeader, heldByteSS, heldHeader). -/
import Derived.Test.YtfhhnnlafdgloaaGreatJ4
import Derived.Test.YtfhhnnlafdgloaaGreatChecked
import Derived.Test.YtfhhnnlafdgloaaGreatJ1
import Derived.WalkKit
import Derived.WalkLawsBesides
import Derived.WalkSmall
import Derived.KernelRfl
import Derived.WalkSpells
namespace Go.Proofs.YtfhhnnlafdgloaaGreat
open Go.RowKit
set_option linter.unusedVariables false
set_option maxRecDepth 100000

theorem take_drop_at (m l : List (List Int)) (k : Nat) (h : m.length = l.length) : (m.take k ++ l.drop k)[k]? = l[k]? := by
  by_cases hk : k ≤ m.length
  · rw [List.getElem?_append_right (by rw [List.length_take]; omega), List.length_take, Nat.min_eq_left hk, Nat.sub_self, List.getElem?_drop, Nat.add_zero]
  · rw [List.getElem?_eq_none (by rw [List.length_append, List.length_take, List.length_drop]; omega), List.getElem?_eq_none (by omega)]

theorem take_drop_set (m l : List (List Int)) (k : Nat) (x : List Int) (h : m.length = l.length) (hx : m[k]? = some x) : (m.take k ++ l.drop k).set k x = m.take (k + 1) ++ l.drop (k + 1) := by
  obtain ⟨hk, e⟩ := List.getElem?_eq_some_iff.1 hx
  have hl : (m.take k).length = k := by rw [List.length_take]; omega
  rw [List.set_append, if_neg (by omega), hl, Nat.sub_self, List.drop_eq_getElem_cons (by omega), List.set_cons_zero, List.take_succ_eq_append_getElem hk, e, List.append_assoc]
  rfl

theorem markB_col (B j : Nat) (d : Nat → Nat) (s : Sl) (z : List Int) (k0 : Int) (w : World) (h : CB w B d j s z) (hB : B ≤ w.heap.size) (hn : z.length ≤ 1048576) (hk0 : 0 ≤ k0) (hk1 : k0 ≤ 1099511627776) :
    Calls Tryz.prog 13 #[.slice s.a s.n s.c, .int .i64 k0] w fun e w' => e = .returned (.int .i64 (k0 + (z.length : Nat))) ∧ CB w' B d j s (marks k0 z.length) ∧ OnlyD B d (fun c => c = j) w w' := by
  have hl := h.len
  refine (markByteS_own B s.n s.c s.a z k0 w h.own (by omega) hk0 hk1).mono ?_
  rintro e w' ⟨rfl, ho, hg⟩
  rw [hl] at ho
  refine ⟨by rw [hl], ⟨by rw [marks_length]; exact hl, marks_range _ _, by rw [hl]; exact ho, h.col⟩, OnlyD.grown hg hB (fun g e => ⟨(own_lt h.own g e).1, h.col g e⟩)⟩

set_option maxHeartbeats 4000000 in
theorem markSS_col (B r c : Nat) (d : Nat → Nat) (s : Sl) (zss : List (List Int)) (k0 : Int) (w : World) (h : CS w B d r c s zss) (hr : ∀ i, r ≠ c + 3 * i) (hB : B ≤ w.heap.size) (hl : zss.length ≤ 1048576) (hs : bsum zss ≤ 1048576) (hk0 : 0 ≤ k0) (hk1 : k0 ≤ 16777216) :
    Calls Tryz.prog 37 #[.slice s.a s.n s.c, .int .i64 k0] w fun e w' => e = .returned (.int .i64 (k0 + (bsum zss : Nat))) ∧ CS w' B d r c s (mkss k0 zss) ∧ OnlyD B d (fun q => ∃ i, q = c + 3 * i) w w' := by
  have hsn := h.1
  have HSN := hide (bsum_snoc zss)
  have HLE := hide (bsum_le zss)
  have HMA := hide (mkss_at zss k0)
  have HML := hide (mkss_length zss k0)
  have HM := hide h
  have HR := hide hr
  obtain ⟨len, hlen⟩ : ∃ len, len = zss.length := ⟨_, rfl⟩
  have HLEN := hide hlen
  rw [hsn]
  rw [← hlen] at hl hsn ⊢
  clear h hr hlen
  have HSL := hide hsn
  clear hsn
  generalize hsc : s.c = sc
  have HSC := hide hsc
  clear hsc
  generalize hsa : s.a = sa
  have HSA := hide hsa
  clear hsa
  go_enter Tryz.func37, Tryz.ntmps37
  go_wp2_with fail
  go_loopw [1, 5] (fun q i wr => ∃ k : Nat, k ≤ len ∧ i = .int .i64 k ∧ q = .int .i64 (k0 + (bsum (zss.take k) : Nat)) ∧ CS wr B d r c s ((mkss k0 zss).take k ++ zss.drop k) ∧ OnlyD B d (fun q => ∃ i, q = c + 3 * i) w wr) (fun _ i _ => len - (intOf i).toNat)
  case atStart => exact ⟨0, Nat.zero_le _, rfl, by simp [bsum], by simpa using unhide HM, OnlyD.refl _ _ _ _⟩
  case round =>
    obtain ⟨k, hk, rfl, rfl, hm, ho⟩ := hrel
    clear HM
    by_cases hlt : k < len
    · obtain ⟨z, hit⟩ : ∃ z, zss[k]? = some z := ⟨_, List.getElem?_eq_getElem (by rw [← unhide HLEN]; exact hlt)⟩
      have hat := (take_drop_at (mkss k0 zss) zss k (unhide HML)).trans hit
      obtain ⟨g, e, ha, hc, hcb, hst⟩ := hm.at hat ((unhide HR) k)
      have hma := (unhide HMA) k z hit
      have hsn := (unhide HSN) k z hit
      have hle1 := (unhide HLE) (k + 1)
      have hzl : z.length ≤ 1048576 := by omega
      obtain ⟨ks, hks⟩ : ∃ ks, ks = bsum (zss.take k) := ⟨_, rfl⟩
      rw [← hks] at hsn hma ⊢
      have hksl : ks ≤ 1048576 := by omega
      have hBr : B ≤ wr.heap.size := Nat.le_trans hB ho.1.size
      have HC := hide (markB_col B (c + 3 * k) d e z (k0 + ks) wr hcb hBr hzl (by omega) (by omega))
      have HST : Hid (∀ w', CB w' B d (c + 3 * k) e (marks (k0 + ks) z.length) → OnlyD B d (fun q => q = c + 3 * k) wr w' → CS w' B d r c s ((mkss k0 zss).take (k + 1) ++ zss.drop (k + 1)) ∧ OnlyD B d (fun q => ∃ i, q = c + 3 * i) w w') := fun w' hb hw => by
        have := hst w' _ hw hb
        rw [take_drop_set _ _ k _ (unhide HML) hma] at this
        exact ⟨this, ho.trans (hw.mono (fun q e => ⟨k, e⟩))⟩
      have HSN2 : Hid (bsum (zss.take (k + 1)) = ks + z.length) := hsn
      have k1 : (0 : Int) ≤ (k : Int) := by omega
      have k2 : (k : Int) < (len : Int) := by omega
      rw [unhide HSA] at ha
      subst ha
      generalize z.length = zl at HC HST HSN2 hzl
      clear hsn hle1 hit ho hks hm hat hcb hst hma
      go_wp2_with fail
      refine (unhide HC).mono ?_
      rintro e w2 ⟨rfl, b2, g2⟩
      obtain ⟨m2, o2⟩ := (unhide HST) w2 b2 g2
      have HM2 := hide m2
      have HO2 := hide o2
      clear m2 o2 g2 b2
      go_wp2_with fail
      go_roundw
      case rel => exact ⟨k + 1, by omega, by go_num, by rw [unhide HSN2]; congr 1; omega, unhide HM2, unhide HO2⟩
      case measure => simp [intOf]; omega
    · obtain rfl : k = len := by omega
      have et : zss.take k = zss := List.take_of_length_le (by rw [← unhide HLEN]; exact Nat.le_refl _)
      have em : (mkss k0 zss).take k ++ zss.drop k = mkss k0 zss := by rw [List.take_of_length_le (by rw [unhide HML, ← unhide HLEN]; exact Nat.le_refl _), List.drop_eq_nil_of_le (by rw [← unhide HLEN]; exact Nat.le_refl _), List.append_nil]
      rw [et]
      rw [em] at hm
      have HO := hide ho
      have HM := hide hm
      clear hm ho et em
      go_wp2_with fail
      go_ret
      exact ⟨rfl, unhide HM, unhide HO⟩

set_option maxHeartbeats 4000000 in
theorem heldSS_any (a : Option Addr) (len cap : Nat) (zss : List (List Int)) (k0 : Int) (w : World) (h : BsRow w a len (mkss k0 zss)) (hl : zss.length ≤ 1048576) (hs : bsum zss ≤ 1048576) (hk0 : 0 ≤ k0) (hk1 : k0 ≤ 16777216) :
    Calls Tryz.prog 70 #[.slice a len cap, .int .i64 k0] w fun e w' => e = .returned (.int .i64 (k0 + (bsum zss : Nat))) ∧ w' = w := by
  have hlen : zss.length = len := by rw [← mkss_length zss k0]; exact h.1
  have HSN := hide (bsum_snoc zss)
  have HLE := hide (bsum_le zss)
  have HMA := hide (mkss_at zss k0)
  have HLEN := hide hlen
  have HROW := hide h
  rw [hlen] at hl
  clear h hlen
  go_enter Tryz.func70, Tryz.ntmps70
  go_wp2_with fail
  go_loopw [1, 5] (fun q i wr => ∃ k : Nat, k ≤ len ∧ i = .int .i64 k ∧ q = .int .i64 (k0 + (bsum (zss.take k) : Nat)) ∧ wr = w) (fun _ i _ => len - (intOf i).toNat)
  case atStart => exact ⟨0, Nat.zero_le _, rfl, by simp [bsum], rfl⟩
  case round =>
    obtain ⟨k, hk, rfl, rfl, rfl⟩ := hrel
    by_cases hlt : k < len
    · obtain ⟨z, hit⟩ : ∃ z, zss[k]? = some z := ⟨_, List.getElem?_eq_getElem (by rw [unhide HLEN]; exact hlt)⟩
      obtain ⟨b, off, rfl, _, hat⟩ := (unhide HROW).at (by omega)
      obtain ⟨s1, n1, d1, c0, r1⟩ := hat k _ ((unhide HMA) k z hit)
      have hn1 : z.length = n1 := by have := r1.1; rw [marks_length] at this; exact this
      subst hn1
      have hsn := (unhide HSN) k z hit
      have hle1 := (unhide HLE) (k + 1)
      have hzl : z.length ≤ 1048576 := by omega
      obtain ⟨ks, hks⟩ : ∃ ks, ks = bsum (zss.take k) := ⟨_, rfl⟩
      rw [← hks] at hsn r1 ⊢
      have hksl : ks ≤ 1048576 := by omega
      have HC := hide (heldByteS_any z.length d1 s1 (k0 + ks) wr r1 (by omega) (by omega) (by omega))
      have HSN2 : Hid (bsum (zss.take (k + 1)) = ks + z.length) := hsn
      have k1 : (0 : Int) ≤ (k : Int) := by omega
      have k2 : (k : Int) < (len : Int) := by omega
      generalize z.length = zl at c0 HC HSN2 hzl
      have k3 : decide (k0 + (ks : Int) + (zl : Int) < 0) = false := decide_eq_false (by omega)
      clear hsn hle1 hit hks hat r1
      go_wp2_with fail
      refine (unhide HC).mono ?_
      rintro e w2 ⟨rfl, rfl⟩
      go_wp2_with fail
      go_roundw
      case rel => exact ⟨k + 1, by omega, by go_num, by rw [unhide HSN2]; congr 1; omega, by first | exact rfl | trivial⟩
      case measure => simp [intOf]; omega
    · obtain rfl : k = len := by omega
      have et : zss.take k = zss := List.take_of_length_le (by rw [unhide HLEN]; exact Nat.le_refl _)
      rw [et]
      clear et
      go_wp2_with fail
      go_ret
      exact ⟨rfl, rfl⟩

end Go.Proofs.YtfhhnnlafdgloaaGreat

/- What is proved here: the contracts of the laws' helper functions that mark bytes and lists of bytes that a call made, told by paths: what they leave, and that nothing else is written (markByteS, markByteSS); plain facts on rows and pairs in memory of their own. -/
namespace Go.Proofs.YtfhhnnlafdgloaaGreat
open Go.RowKit
set_option linter.unusedVariables false
set_option linter.unusedSimpArgs false
set_option maxRecDepth 100000

/-- What a row's element is, and that it may be changed for another one of the same cells. -/
theorem RowOwn.swap {α β : Type} {K : Kd α β} {T : TypeId} {w : World} {B : Nat} {d : Nat → Path} {p : Path} {s : Sl} {xs : List α} (h : RowOwn K T w B d p s xs) {i : Nat} {x : α} (hx : xs[i]? = some x) :
    ∃ b off e, s.a = some ⟨b, off, none⟩ ∧ B ≤ b ∧ b < w.heap.size ∧ d b = p ∧ K.Own w B d (p ++ [i]) e x ∧ (∀ j v, (K.vals e x)[j]? = some v → w.cell? ⟨b, off + i * K.m + j, none⟩ = some v) ∧ (∀ j, w.frozen? ⟨b, j, none⟩ = false) ∧
      ∀ w' x', OnlyP B d (p ++ [i]) w w' → K.Own w' B d (p ++ [i]) e x' → K.vals e x' = K.vals e x → RowOwn K T w' B d p s (xs.set i x') := by
  obtain ⟨h1, es, vs, h2, h3, h4, h5⟩ := h
  have hi := (List.getElem?_eq_some_iff.1 hx).1
  obtain ⟨e, he⟩ : ∃ e, es[i]? = some e := ⟨_, List.getElem?_eq_getElem (by omega)⟩
  obtain ⟨q1, q2⟩ := h5 i e x he hx
  obtain ⟨b, off, ha, hb, hlt⟩ := h3.pos (by omega)
  refine ⟨b, off, e, ha, hb, hlt, h4 _ ha, q2, fun j v hv => ?_, fun j => h3.free ha j, fun w' x' ho hx' hv => ?_⟩
  · have hj : j < K.m := by have := (List.getElem?_eq_some_iff.1 hv).1; rw [K.len] at this; exact this
    rw [Nat.add_assoc, h3.cell ha (row_index (by omega) hj)]
    exact q1 j v hv
  · refine ⟨by rw [List.length_set]; exact h1, es, vs, by rw [List.length_set]; exact h2, h3.keep (fun y hy => ?_), h4, fun j e' y he' hy => ?_⟩
    · rw [ha] at hy
      obtain rfl := Option.some.inj hy
      exact ho.2 b hlt (by rw [h4 _ ha]; exact not_pre_self p i)
    · by_cases hji : i = j
      · subst hji
        obtain rfl : e = e' := Option.some.inj (he.symm.trans he')
        rw [List.getElem?_set_self hi] at hy
        obtain rfl := Option.some.inj hy
        exact ⟨fun j v hv' => q1 j v (by rw [← hv]; exact hv'), hx'⟩
      · rw [List.getElem?_set_ne hji] at hy
        obtain ⟨r1, r2⟩ := h5 j e' y he' hy
        exact ⟨r1, K.frame r2 (fun g a b c => ho.2 g a (pre_snoc p (d g) j i (fun q => hji q.symm) c))⟩

theorem OnlyP.grown {B : Nat} {d : Nat → Path} {p : Path} {w w' : World} {o : Option Nat} (h : w.grownBy w' o) (hB : B ≤ w.heap.size) (hk : ∀ g, o = some g → B ≤ g ∧ d g = p) : OnlyP B d p w w' :=
  ⟨(Below.refl _ _).grown h hB (fun g e => (hk g e).1), fun g hg hs => h.block g hg (fun e => hs (by rw [(hk g e.symm).2]; exact List.prefix_rfl))⟩

theorem markB_p (B : Nat) (d : Nat → Path) (p : Path) (s : Sl) (z : List Int) (k0 : Int) (w : World) (h : BOwn w B d p s z) (hB : B ≤ w.heap.size) (hn : z.length ≤ 1048576) (hk0 : 0 ≤ k0) (hk1 : k0 ≤ 1099511627776) :
    Calls Tryz.prog 13 #[.slice s.a s.n s.c, .int .i64 k0] w fun e w' => e = .returned (.int .i64 (k0 + (z.length : Nat))) ∧ BOwn w' B d p s (marks k0 z.length) ∧ OnlyP B d p w w' := by
  have hl : z.length = s.n := by have := h.own.1; simpa using this
  refine (markByteS_own B s.n s.c s.a z k0 w h.own (by omega) hk0 hk1).mono ?_
  rintro e w' ⟨rfl, ho, hg⟩
  rw [hl]
  refine ⟨rfl, ⟨marks_range _ _, ho, h.col⟩, OnlyP.grown hg hB (fun g e => ?_)⟩
  have := own_lt h.own g e
  refine ⟨this.1, ?_⟩
  cases ha : s.a with
  | none => rw [ha] at e; simp [Value.ownBlock] at e
  | some x =>
    rw [ha] at e
    simp only [Value.ownBlock, Option.map_some, Option.some.injEq] at e
    rw [← e]
    exact h.col x ha

/-- A number of an element written anew, in the row itself. -/
theorem RowOwn.setAt {α β : Type} {K : Kd α β} {T : TypeId} {w : World} {B : Nat} {d : Nat → Path} {p : Path} {s : Sl} {xs : List α} (h : RowOwn K T w B d p s xs) {i : Nat} {x : α} (hx : xs[i]? = some x) {b off : Nat} (ha : s.a = some ⟨b, off, none⟩) (c : Nat) (hc : c < K.m) (v : Value) (x' : α)
    (hv : ∀ e, K.vals e x' = (K.vals e x).set c v) (hO : ∀ (w' : World) (e : β), K.Own w' B d (p ++ [i]) e x → K.Own w' B d (p ++ [i]) e x') :
    RowOwn K T (w.setCell ⟨b, off + i * K.m + c, none⟩ v) B d p s (xs.set i x') := by
  obtain ⟨h1, es, vs, h2, h3, h4, h5⟩ := h
  have hi := (List.getElem?_eq_some_iff.1 hx).1
  have hdb : d b = p := h4 _ ha
  have keep : ∀ {j e y}, K.Own w B d (p ++ [j]) e y → K.Own (w.setCell ⟨b, off + i * K.m + c, none⟩ v) B d (p ++ [j]) e y := fun {j e y} q => K.frame q (fun g _ _ hp => heap_setCell_other w ⟨b, off + i * K.m + c, none⟩ g v (fun (ee : g = b) => by rw [ee, hdb] at hp; exact not_pre_self p j hp))
  refine ⟨by rw [List.length_set]; exact h1, es, vs.set (i * K.m + c) v, by rw [List.length_set]; exact h2, by rw [Nat.add_assoc]; exact h3.set ha (i * K.m + c) v, h4, fun j e y he hy => ?_⟩
  by_cases hji : i = j
  · subst hji
    rw [List.getElem?_set_self hi] at hy
    obtain rfl := Option.some.inj hy
    obtain ⟨q1, q2⟩ := h5 i e x he hx
    refine ⟨fun k u hu => ?_, hO _ e (keep q2)⟩
    have hk : k < K.m := by have := (List.getElem?_eq_some_iff.1 hu).1; rw [K.len] at this; exact this
    rw [hv e] at hu
    by_cases hkc : c = k
    · subst hkc
      rw [List.getElem?_set_self (by rw [K.len]; exact hc)] at hu
      rw [List.getElem?_set_self (by rw [h3.len]; exact row_index (by omega) hc)]
      exact hu
    · rw [List.getElem?_set_ne hkc] at hu
      rw [List.getElem?_set_ne (by omega)]
      exact q1 k u hu
  · rw [List.getElem?_set_ne hji] at hy
    obtain ⟨q1, q2⟩ := h5 j e y he hy
    refine ⟨fun k u hu => ?_, keep q2⟩
    have hk : k < K.m := by have := (List.getElem?_eq_some_iff.1 hu).1; rw [K.len] at this; exact this
    rw [List.getElem?_set_ne (fun (ee : i * K.m + c = j * K.m + k) => hji (by
      have e1 : (i * K.m + c) / K.m = i := by rw [Nat.mul_comm, Nat.mul_add_div (by omega), Nat.div_eq_of_lt hc, Nat.add_zero]
      have e2 : (j * K.m + k) / K.m = j := by rw [Nat.mul_comm, Nat.mul_add_div (by omega), Nat.div_eq_of_lt hk, Nat.add_zero]
      rw [← e1, ← e2, ee]))]
    exact q1 k u hu

set_option maxHeartbeats 4000000 in
theorem markSs_p (B : Nat) (d : Nat → Path) (p : Path) (s : Sl) (zss : List (List Int)) (k0 : Int) (w : World) (h : RowOwn bytesK 27 w B d p s zss) (hB : B ≤ w.heap.size) (hl : zss.length ≤ 1048576) (hs : bsum zss ≤ 1048576) (hk0 : 0 ≤ k0) (hk1 : k0 ≤ 549755813888) :
    Calls Tryz.prog 37 #[.slice s.a s.n s.c, .int .i64 k0] w fun e w' => e = .returned (.int .i64 (k0 + (bsum zss : Nat))) ∧ RowOwn bytesK 27 w' B d p s (mkss k0 zss) ∧ OnlyP B d p w w' := by
  have hsn : s.n = zss.length := h.1
  have HSN := hide (bsum_snoc zss)
  have HLE := hide (bsum_le zss)
  have HMA := hide (mkss_at zss k0)
  have HML := hide (mkss_length zss k0)
  have HM := hide h
  obtain ⟨len, hlen⟩ : ∃ len, len = zss.length := ⟨_, rfl⟩
  have HLEN := hide hlen
  rw [hsn]
  rw [← hlen] at hl hsn ⊢
  clear h hlen
  have HSL := hide hsn
  clear hsn
  generalize hsc : s.c = sc
  have HSC := hide hsc
  clear hsc
  generalize hsa : s.a = sa
  have HSA := hide hsa
  clear hsa
  go_enter Tryz.func37, Tryz.ntmps37
  go_wp2_with fail
  go_loopw [1, 5] (fun q i wr => ∃ k : Nat, k ≤ len ∧ i = .int .i64 k ∧ q = .int .i64 (k0 + (bsum (zss.take k) : Nat)) ∧ RowOwn bytesK 27 wr B d p s ((mkss k0 zss).take k ++ zss.drop k) ∧ OnlyP B d p w wr) (fun _ i _ => len - (intOf i).toNat)
  case atStart => exact ⟨0, Nat.zero_le _, rfl, by simp [bsum], by simpa using unhide HM, OnlyP.refl _ _ _ _⟩
  case round =>
    obtain ⟨k, hk, rfl, rfl, hm, ho⟩ := hrel
    clear HM
    by_cases hlt : k < len
    · obtain ⟨z, hit⟩ : ∃ z, zss[k]? = some z := ⟨_, List.getElem?_eq_getElem (by rw [← unhide HLEN]; exact hlt)⟩
      have hat := (take_drop_at (mkss k0 zss) zss k (unhide HML)).trans hit
      obtain ⟨b, off, e, ha, hbB, hblt, hbd, hcb, hcell, hfz, hst⟩ := hm.swap hat
      have hc := hcell 0 _ rfl
      simp only [show bytesK.m = 1 from rfl, Nat.mul_one, Nat.add_zero] at hc
      have hma := (unhide HMA) k z hit
      have hsn := (unhide HSN) k z hit
      have hle1 := (unhide HLE) (k + 1)
      have hzl : z.length ≤ 1048576 := by omega
      obtain ⟨ks, hks⟩ : ∃ ks, ks = bsum (zss.take k) := ⟨_, rfl⟩
      rw [← hks] at hsn hma ⊢
      have hksl : ks ≤ 1048576 := by omega
      have hBr : B ≤ wr.heap.size := Nat.le_trans hB ho.1.size
      have HC := hide (markB_p B d (p ++ [k]) e z (k0 + ks) wr hcb hBr hzl (by omega) (by omega))
      have HST : Hid (∀ w', BOwn w' B d (p ++ [k]) e (marks (k0 + ks) z.length) → OnlyP B d (p ++ [k]) wr w' → RowOwn bytesK 27 w' B d p s ((mkss k0 zss).take (k + 1) ++ zss.drop (k + 1)) ∧ OnlyP B d p w w') := fun w' hb hw => by
        have := hst w' _ hw hb rfl
        rw [take_drop_set _ _ k _ (unhide HML) hma] at this
        exact ⟨this, ho.trans hw.up⟩
      have HSN2 : Hid (bsum (zss.take (k + 1)) = ks + z.length) := hsn
      have k1 : (0 : Int) ≤ (k : Int) := by omega
      have k2 : (k : Int) < (len : Int) := by omega
      rw [unhide HSA] at ha
      subst ha
      generalize z.length = zl at HC HST HSN2 hzl
      clear hsn hle1 hit ho hks hm hat hcb hst hma hcell hfz
      go_wp2_with fail
      refine (unhide HC).mono ?_
      rintro e w2 ⟨rfl, b2, g2⟩
      obtain ⟨m2, o2⟩ := (unhide HST) w2 b2 g2
      have HM2 := hide m2
      have HO2 := hide o2
      clear m2 o2 g2 b2
      go_wp2_with fail
      go_roundw
      case rel => exact ⟨k + 1, by omega, by go_num, by rw [unhide HSN2]; congr 1; omega, unhide HM2, unhide HO2⟩
      case measure => simp [intOf]; omega
    · obtain rfl : k = len := by omega
      have et : zss.take k = zss := List.take_of_length_le (by rw [← unhide HLEN]; exact Nat.le_refl _)
      have em : (mkss k0 zss).take k ++ zss.drop k = mkss k0 zss := by rw [List.take_of_length_le (by rw [unhide HML, ← unhide HLEN]; exact Nat.le_refl _), List.drop_eq_nil_of_le (by rw [← unhide HLEN]; exact Nat.le_refl _), List.append_nil]
      rw [et]
      rw [em] at hm
      have HO := hide ho
      have HM := hide hm
      clear hm ho et em
      go_wp2_with fail
      go_ret
      exact ⟨rfl, unhide HM, unhide HO⟩

theorem pairL {α β α' β' : Type} {K : Kd α β} {L : Kd α' β'} {w w' : World} {B : Nat} {d : Nat → Path} {q : Path} {e : β × β'} {x : α × α'} {y : α} (h : (pairK K L).Own w B d q e x) (n : K.Own w' B d (q ++ [0]) e.1 y) (o : OnlyP B d (q ++ [0]) w w') : (pairK K L).Own w' B d q e (y, x.2) :=
  ⟨n, L.apart h.2 o (fun c h1 h2 => pre_snoc q c 1 0 (by omega) h1 h2)⟩

theorem pairR {α β α' β' : Type} {K : Kd α β} {L : Kd α' β'} {w w' : World} {B : Nat} {d : Nat → Path} {q : Path} {e : β × β'} {x : α × α'} {y : α'} (h : (pairK K L).Own w B d q e x) (n : L.Own w' B d (q ++ [1]) e.2 y) (o : OnlyP B d (q ++ [1]) w w') : (pairK K L).Own w' B d q e (x.1, y) :=
  ⟨K.apart h.1 o (fun c h1 h2 => pre_snoc q c 0 1 (by omega) h1 h2), n⟩

end Go.Proofs.YtfhhnnlafdgloaaGreat

/- What is proved here: the contracts of the laws' helper functions that mark recents and votes that a call made, told by paths: what they leave, and that nothing else is written (markRecentS, markVoteS). -/
namespace Go.Proofs.YtfhhnnlafdgloaaGreat
open Go.RowKit
set_option linter.unusedVariables false
set_option linter.unusedSimpArgs false
set_option maxRecDepth 100000

/-- A row whose elements are marked one behind another: f marks one from a number on, t tells how many numbers it takes. -/
def mkR {α : Type} (f : Int → α → α) (t : α → Nat) : Int → List α → List α
  | _, [] => []
  | k, x :: r => f k x :: mkR f t (k + (t x : Nat)) r

theorem mkR_length {α : Type} (f : Int → α → α) (t : α → Nat) : ∀ (xs : List α) (k : Int), (mkR f t k xs).length = xs.length
  | [], k => rfl
  | x :: r, k => by rw [mkR, List.length_cons, List.length_cons, mkR_length f t r]

theorem mkR_at {α : Type} (f : Int → α → α) (t : α → Nat) : ∀ (xs : List α) (k : Int) (i : Nat) (x : α), xs[i]? = some x → (mkR f t k xs)[i]? = some (f (k + (lsum t (xs.take i) : Nat)) x)
  | [], k, i, x, h => by simp at h
  | a :: r, k, 0, x, h => by
    simp at h
    subst h
    simp [mkR, lsum]
  | a :: r, k, i + 1, x, h => by
    rw [List.getElem?_cons_succ] at h
    rw [mkR, List.getElem?_cons_succ, mkR_at f t r _ i x h]
    congr 2
    simp only [lsum, List.take_succ_cons, List.map_cons, List.sum_cons]
    omega

theorem ls_snoc {α : Type} (t : α → Nat) (xs : List α) (k : Nat) (x : α) (h : xs[k]? = some x) : lsum t (xs.take (k + 1)) = lsum t (xs.take k) + t x := by
  obtain ⟨hk, e⟩ := List.getElem?_eq_some_iff.1 h
  unfold lsum
  rw [List.take_succ_eq_append_getElem hk, e]
  simp

theorem ls_le {α : Type} (t : α → Nat) (xs : List α) (k : Nat) : lsum t (xs.take k) ≤ lsum t xs := by
  have e : lsum t xs = lsum t (xs.take k) + lsum t (xs.drop k) := by
    unfold lsum
    rw [← List.sum_append, ← List.map_append, List.take_append_drop]
  omega

theorem tk_at {α : Type} (m l : List α) (k : Nat) (h : m.length = l.length) : (m.take k ++ l.drop k)[k]? = l[k]? := by
  by_cases hk : k ≤ m.length
  · rw [List.getElem?_append_right (by rw [List.length_take]; omega), List.length_take, Nat.min_eq_left hk, Nat.sub_self, List.getElem?_drop, Nat.add_zero]
  · rw [List.getElem?_eq_none (by rw [List.length_append, List.length_take, List.length_drop]; omega), List.getElem?_eq_none (by omega)]

theorem tk_set {α : Type} (m l : List α) (k : Nat) (x : α) (h : m.length = l.length) (hx : m[k]? = some x) : (m.take k ++ l.drop k).set k x = m.take (k + 1) ++ l.drop (k + 1) := by
  obtain ⟨hk, e⟩ := List.getElem?_eq_some_iff.1 hx
  have hl : (m.take k).length = k := by rw [List.length_take]; omega
  rw [List.set_append, if_neg (by omega), hl, Nat.sub_self, List.drop_eq_getElem_cons (by omega), List.set_cons_zero, List.take_succ_eq_append_getElem hk, e, List.append_assoc]
  rfl

theorem tk_all {α : Type} (m l : List α) (k : Nat) (h : m.length = l.length) (hk : l.length ≤ k) : m.take k ++ l.drop k = m := by
  rw [List.take_of_length_le (by omega), List.drop_eq_nil_of_le hk, List.append_nil]

/-- A recent marked from a number on, and how many numbers it takes. -/
def mkRc (k : Int) (r : Rc) : Rc := (k, marks (k + 1) r.2.length)
def rcT (r : Rc) : Nat := 1 + r.2.length
/-- A vote marked from a number on, and how many numbers it takes. -/
def mkVt (k : Int) (v : Vt) : Vt := (marks k v.1.length, marks (k + (v.1.length : Nat)) v.2.1.length, decide ((k + (v.1.length : Nat) + (v.2.1.length : Nat)) % 3 = 0))
def vtT (v : Vt) : Nat := v.1.length + v.2.1.length + 1

set_option maxHeartbeats 4000000 in
theorem markRc_p (B : Nat) (d : Nat → Path) (p : Path) (s : Sl) (xs : List Rc) (k0 : Int) (w : World) (h : RowOwn rcK 89 w B d p s xs) (hB : B ≤ w.heap.size) (hl : xs.length ≤ 1048576) (hs : lsum rcT xs ≤ 4194304) (hz : ∀ r ∈ xs, r.2.length ≤ 1048576) (hk0 : 0 ≤ k0) (hk1 : k0 ≤ 16777216) :
    Calls Tryz.prog 38 #[.slice s.a s.n s.c, .int .i64 k0] w fun e w' => e = .returned (.int .i64 (k0 + (lsum rcT xs : Nat))) ∧ RowOwn rcK 89 w' B d p s (mkR mkRc rcT k0 xs) ∧ OnlyP B d p w w' := by
  have hsn : s.n = xs.length := h.1
  have HSN := hide (ls_snoc rcT xs)
  have HLE := hide (ls_le rcT xs)
  have HMA := hide (mkR_at mkRc rcT xs k0)
  have HML := hide (mkR_length mkRc rcT xs k0)
  have HZ := hide hz
  have HM := hide h
  obtain ⟨len, hlen⟩ : ∃ len, len = xs.length := ⟨_, rfl⟩
  have HLEN := hide hlen
  rw [hsn]
  rw [← hlen] at hl hsn ⊢
  clear h hlen hz
  have HSL := hide hsn
  clear hsn
  generalize hsc : s.c = sc
  have HSC := hide hsc
  clear hsc
  generalize hsa : s.a = sa
  have HSA := hide hsa
  clear hsa
  go_enter Tryz.func38, Tryz.ntmps38
  go_wp2_with fail
  go_loopw [1, 5] (fun q i wr => ∃ k : Nat, k ≤ len ∧ i = .int .i64 k ∧ q = .int .i64 (k0 + (lsum rcT (xs.take k) : Nat)) ∧ RowOwn rcK 89 wr B d p s ((mkR mkRc rcT k0 xs).take k ++ xs.drop k) ∧ OnlyP B d p w wr) (fun _ i _ => len - (intOf i).toNat)
  case atStart => exact ⟨0, Nat.zero_le _, rfl, by simp [lsum], by simpa using unhide HM, OnlyP.refl _ _ _ _⟩
  case round =>
    obtain ⟨k, hk, rfl, rfl, hm, ho⟩ := hrel
    clear HM
    by_cases hlt : k < len
    · obtain ⟨z, hit⟩ : ∃ z, xs[k]? = some z := ⟨_, List.getElem?_eq_getElem (by rw [← unhide HLEN]; exact hlt)⟩
      have hat := (tk_at (mkR mkRc rcT k0 xs) xs k (unhide HML)).trans hit
      obtain ⟨b, off, e, ha, hbB, hblt, hbd, hcb, hcell, hfz, hst⟩ := hm.swap hat
      have hma := (unhide HMA) k z hit
      have hsn := (unhide HSN) k z hit
      have hle1 := (unhide HLE) (k + 1)
      have hzl : z.2.length ≤ 1048576 := (unhide HZ) z (List.mem_of_getElem? hit)
      obtain ⟨ks, hks⟩ : ∃ ks, ks = lsum rcT (xs.take k) := ⟨_, rfl⟩
      rw [← hks] at hsn hma ⊢
      have hksl : ks ≤ 4194304 := by omega
      have hBr : B ≤ wr.heap.size := Nat.le_trans hB ho.1.size
      have c0 := hcell 0 _ rfl
      have f0 := hfz (off + k * 2 + 0)
      simp only [show rcK.m = 2 from rfl, Nat.add_zero] at c0 f0
      have hrow1 := hm.setAt hat ha 0 (by decide) (.int .i64 (k0 + ks)) (k0 + (ks : Int), z.2) (fun e => rfl) (fun w' e o => ⟨(show in64 (k0 + (ks : Int)) by unfold in64; omega), o.2⟩)
      simp only [show rcK.m = 2 from rfl, Nat.add_zero] at hrow1
      obtain ⟨W1, ew1⟩ : ∃ W, wr.setCell ⟨b, off + k * 2, none⟩ (.int .i64 (k0 + ks)) = W := ⟨_, rfl⟩
      have only1 : OnlyP B d p wr W1 := by
        rw [← ew1]
        exact ⟨(Below.refl _ _).setCell hbB _, fun g hg hs => heap_setCell_other wr ⟨b, off + k * 2, none⟩ g _ (fun (e : g = b) => hs (by rw [e, hbd]; exact List.prefix_rfl))⟩
      rw [ew1] at hrow1
      have hl1 : ((mkR mkRc rcT k0 xs).take k ++ xs.drop k).length = xs.length := by rw [List.length_append, List.length_take, List.length_drop, unhide HML]; omega
      have hat1 : (((mkR mkRc rcT k0 xs).take k ++ xs.drop k).set k (k0 + (ks : Int), z.2))[k]? = some (k0 + (ks : Int), z.2) := List.getElem?_set_self (by rw [hl1, ← unhide HLEN]; exact hlt)
      obtain ⟨b', off', e', ha', _, _, _, hcb1, hcell1, _, hst1⟩ := hrow1.swap hat1
      rw [ha] at ha'
      simp only [Option.some.injEq, Addr.mk.injEq, and_true] at ha'
      obtain ⟨rfl, rfl⟩ := ha'
      have c1 := hcell1 1 _ rfl
      simp only [show rcK.m = 2 from rfl] at c1
      have hBr1 : B ≤ W1.heap.size := Nat.le_trans hBr only1.1.size
      have HC := hide (markB_p B d (p ++ [k] ++ [1]) e'.2 z.2 (k0 + ks + 1) W1 hcb1.2 hBr1 hzl (by omega) (by omega))
      have HST : Hid (∀ w', BOwn w' B d (p ++ [k] ++ [1]) e'.2 (marks (k0 + ks + 1) z.2.length) → OnlyP B d (p ++ [k] ++ [1]) W1 w' → RowOwn rcK 89 w' B d p s ((mkR mkRc rcT k0 xs).take (k + 1) ++ xs.drop (k + 1)) ∧ OnlyP B d p w w') := fun w' hb hw => by
        have := hst1 w' (mkRc (k0 + ks) z) hw.up (pairR hcb1 hb hw) rfl
        rw [List.set_set, tk_set _ _ k _ (unhide HML) hma] at this
        exact ⟨this, (ho.trans only1).trans hw.up.up⟩
      have HSN2 : Hid (lsum rcT (xs.take (k + 1)) = ks + (1 + z.2.length)) := hsn
      have k1 : (0 : Int) ≤ (k : Int) := by omega
      have k2 : (k : Int) < (len : Int) := by omega
      have k3 : (0 : Int) ≤ k0 + (ks : Int) := by omega
      rw [unhide HSA] at ha
      subst ha
      generalize z.2.length = zl at HC HST HSN2 hzl
      obtain ⟨K1, eK1⟩ : ∃ K1 : Int, k0 + (ks : Int) = K1 := ⟨_, rfl⟩
      have HK1 := hide eK1
      rw [eK1] at ew1 k3 HC HST ⊢
      have k4 : K1 ≤ 33554432 := by omega
      clear hsn hle1 hit ho hks hm hat hcb hst hma hcell hfz hrow1 hat1 hl1 hcb1 hcell1 hst1 only1 eK1
      have EW1 := hide ew1
      clear ew1
      go_wp2_with (rw [unhide EW1])
      refine (unhide HC).mono ?_
      rintro e w2 ⟨rfl, b2, g2⟩
      obtain ⟨m2, o2⟩ := (unhide HST) w2 b2 g2
      have HM2 := hide m2
      have HO2 := hide o2
      clear m2 o2 g2 b2
      go_wp2_with fail
      go_roundw
      case rel => exact ⟨k + 1, by omega, by go_num, by rw [unhide HSN2, ← unhide HK1]; congr 1; omega, unhide HM2, unhide HO2⟩
      case measure => simp [intOf]; omega
    · obtain rfl : k = len := by omega
      have et : xs.take k = xs := List.take_of_length_le (by rw [← unhide HLEN]; exact Nat.le_refl _)
      rw [et]
      rw [tk_all _ _ k (unhide HML) (by rw [← unhide HLEN]; exact Nat.le_refl _)] at hm
      have HO := hide ho
      have HM := hide hm
      clear hm ho et
      go_wp2_with fail
      go_ret
      exact ⟨rfl, unhide HM, unhide HO⟩

set_option maxHeartbeats 4000000 in
theorem markVt_p (B : Nat) (d : Nat → Path) (p : Path) (s : Sl) (xs : List Vt) (k0 : Int) (w : World) (h : RowOwn vtK 86 w B d p s xs) (hB : B ≤ w.heap.size) (hl : xs.length ≤ 1048576) (hs : lsum vtT xs ≤ 4194304) (hz : ∀ r ∈ xs, r.1.length ≤ 1048576 ∧ r.2.1.length ≤ 1048576) (hk0 : 0 ≤ k0) (hk1 : k0 ≤ 16777216) :
    Calls Tryz.prog 39 #[.slice s.a s.n s.c, .int .i64 k0] w fun e w' => e = .returned (.int .i64 (k0 + (lsum vtT xs : Nat))) ∧ RowOwn vtK 86 w' B d p s (mkR mkVt vtT k0 xs) ∧ OnlyP B d p w w' := by
  have hsn : s.n = xs.length := h.1
  have HSN := hide (ls_snoc vtT xs)
  have HLE := hide (ls_le vtT xs)
  have HMA := hide (mkR_at mkVt vtT xs k0)
  have HML := hide (mkR_length mkVt vtT xs k0)
  have HZ := hide hz
  have HM := hide h
  obtain ⟨len, hlen⟩ : ∃ len, len = xs.length := ⟨_, rfl⟩
  have HLEN := hide hlen
  rw [hsn]
  rw [← hlen] at hl hsn ⊢
  clear h hlen hz
  have HSL := hide hsn
  clear hsn
  generalize hsc : s.c = sc
  have HSC := hide hsc
  clear hsc
  generalize hsa : s.a = sa
  have HSA := hide hsa
  clear hsa
  go_enter Tryz.func39, Tryz.ntmps39
  go_wp2_with fail
  go_loopw [1, 5] (fun q i wr => ∃ k : Nat, k ≤ len ∧ i = .int .i64 k ∧ q = .int .i64 (k0 + (lsum vtT (xs.take k) : Nat)) ∧ RowOwn vtK 86 wr B d p s ((mkR mkVt vtT k0 xs).take k ++ xs.drop k) ∧ OnlyP B d p w wr) (fun _ i _ => len - (intOf i).toNat)
  case atStart => exact ⟨0, Nat.zero_le _, rfl, by simp [lsum], by simpa using unhide HM, OnlyP.refl _ _ _ _⟩
  case round =>
    obtain ⟨k, hk, rfl, rfl, hm, ho⟩ := hrel
    clear HM
    by_cases hlt : k < len
    · obtain ⟨z, hit⟩ : ∃ z, xs[k]? = some z := ⟨_, List.getElem?_eq_getElem (by rw [← unhide HLEN]; exact hlt)⟩
      have hat := (tk_at (mkR mkVt vtT k0 xs) xs k (unhide HML)).trans hit
      have hlL : ((mkR mkVt vtT k0 xs).take k ++ xs.drop k).length = len := by rw [List.length_append, List.length_take, List.length_drop, unhide HML]; have := unhide HLEN; omega
      obtain ⟨b, off, e, ha, hbB, hblt, hbd, hcb, hcell, hfz, hst⟩ := hm.swap hat
      have hma := (unhide HMA) k z hit
      have hsn := (unhide HSN) k z hit
      have hle1 := (unhide HLE) (k + 1)
      obtain ⟨hz1, hz2⟩ := (unhide HZ) z (List.mem_of_getElem? hit)
      obtain ⟨ks, hks⟩ : ∃ ks, ks = lsum vtT (xs.take k) := ⟨_, rfl⟩
      rw [← hks] at hsn hma ⊢
      have hksl : ks ≤ 4194304 := by omega
      have hBr : B ≤ wr.heap.size := Nat.le_trans hB ho.1.size
      have c0 := hcell 0 _ rfl
      simp only [show vtK.m = 3 from rfl, Nat.add_zero] at c0
      obtain ⟨K1, eK1⟩ : ∃ K1 : Int, k0 + (ks : Int) = K1 := ⟨_, rfl⟩
      have HK1 := hide eK1
      have k3 : (0 : Int) ≤ K1 := by omega
      have k4 : K1 ≤ 33554432 := by omega
      rw [eK1] at hma ⊢
      clear eK1
      have HC := hide (markB_p B d (p ++ [k] ++ [0]) e.1 z.1 K1 wr hcb.1 hBr hz1 (by omega) (by omega))
      -- the row behind the first marks
      have HST : Hid (∀ w', BOwn w' B d (p ++ [k] ++ [0]) e.1 (marks K1 z.1.length) → OnlyP B d (p ++ [k] ++ [0]) wr w' → RowOwn vtK 86 w' B d p s (((mkR mkVt vtT k0 xs).take k ++ xs.drop k).set k (marks K1 z.1.length, z.2)) ∧ OnlyP B d p w w') := fun w' hb hw =>
        ⟨hst w' (marks K1 z.1.length, z.2) hw.up (pairL hcb hb hw) rfl, ho.trans hw.up.up⟩
      have HSN2 : Hid (lsum vtT (xs.take (k + 1)) = ks + (z.1.length + z.2.1.length + 1)) := hsn
      have k1 : (0 : Int) ≤ (k : Int) := by omega
      have k2 : (k : Int) < (len : Int) := by omega
      have HA := hide ha
      rw [unhide HSA] at ha
      subst ha
      have HMA2 := hide hma
      have HHL := hide hlL
      obtain ⟨L0, eL0⟩ : ∃ L0, L0 = (mkR mkVt vtT k0 xs).take k ++ xs.drop k := ⟨_, rfl⟩
      rw [← eL0] at HST HHL
      have EL0 := hide eL0
      obtain ⟨z1, z2, zb⟩ := z
      simp only at hz1 hz2 HC HST HSN2 HMA2
      obtain ⟨n1, en1⟩ : ∃ n1, n1 = z1.length := ⟨_, rfl⟩
      rw [← en1] at HC HST HSN2 hz1
      have EN1 := hide en1
      clear hsn hle1 hit ho hks hm hat hcb hst hma hcell hfz hlL eL0 en1
      go_wp2_with fail
      refine (unhide HC).mono ?_
      rintro r1 w2 ⟨rfl, b2, g2⟩
      obtain ⟨m2, o2⟩ := (unhide HST) w2 b2 g2
      have hat2 : (L0.set k (marks K1 n1, z2, zb))[k]? = some (marks K1 n1, z2, zb) := List.getElem?_set_self (by rw [unhide HHL]; exact hlt)
      obtain ⟨b', off', e', ha', hbB', hblt', hbd', hcb2, hcell2, hfz2, hst2⟩ := m2.swap hat2
      rw [unhide HA] at ha'
      simp only [Option.some.injEq, Addr.mk.injEq, and_true] at ha'
      obtain ⟨rfl, rfl⟩ := ha'
      have c1 := hcell2 1 _ rfl
      simp only [show vtK.m = 3 from rfl] at c1
      obtain ⟨K2, eK2⟩ : ∃ K2 : Int, K1 + (n1 : Int) = K2 := ⟨_, rfl⟩
      have HK2 := hide eK2
      have k5 : (0 : Int) ≤ K2 := by omega
      have k6 : K2 ≤ 67108864 := by omega
      rw [eK2]
      clear eK2
      have hB2 : B ≤ w2.heap.size := Nat.le_trans hB o2.1.size
      have HD := hide (markB_p B d (p ++ [k] ++ [1] ++ [0]) e'.2.1 z2 K2 w2 hcb2.2.1 hB2 hz2 (by omega) (by omega))
      obtain ⟨n2, en2⟩ : ∃ n2, n2 = z2.length := ⟨_, rfl⟩
      rw [← en2] at HD HSN2 hz2
      have EN2 := hide en2
      have HST2 : Hid (∀ w', BOwn w' B d (p ++ [k] ++ [1] ++ [0]) e'.2.1 (marks K2 n2) → OnlyP B d (p ++ [k] ++ [1] ++ [0]) w2 w' → RowOwn vtK 86 w' B d p s (L0.set k (marks K1 n1, marks K2 n2, zb)) ∧ OnlyP B d p w w') := fun w' hb hw => by
        have := hst2 w' (marks K1 n1, marks K2 n2, zb) hw.up.up (pairR hcb2 (pairL hcb2.2 hb hw) hw.up) rfl
        rw [List.set_set] at this
        exact ⟨this, o2.trans hw.up.up.up⟩
      clear HC c0 b2 g2 m2 o2 hat2 hcb2 hcell2 hfz2 hst2 HST en2 hbB' hblt' hbd'
      go_wp2_with fail
      refine (unhide HD).mono ?_
      rintro r2 w3 ⟨rfl, b3, g3⟩
      obtain ⟨m3, o3⟩ := (unhide HST2) w3 b3 g3
      have hat3 : (L0.set k (marks K1 n1, marks K2 n2, zb))[k]? = some (marks K1 n1, marks K2 n2, zb) := List.getElem?_set_self (by rw [unhide HHL]; exact hlt)
      obtain ⟨b', off', e3, ha', hbB3, hblt3, hbd3, hcb3, hcell3, hfz3, hst3⟩ := m3.swap hat3
      rw [unhide HA] at ha'
      simp only [Option.some.injEq, Addr.mk.injEq, and_true] at ha'
      obtain ⟨rfl, rfl⟩ := ha'
      have c2 := hcell3 2 _ rfl
      have f2 := hfz3 (off + k * 3 + 2)
      simp only [show vtK.m = 3 from rfl] at c2
      obtain ⟨K3, eK3⟩ : ∃ K3 : Int, K2 + (n2 : Int) = K3 := ⟨_, rfl⟩
      have HK3 := hide eK3
      have k7 : (0 : Int) ≤ K3 := by omega
      have k8 : K3 ≤ 134217728 := by omega
      rw [eK3]
      clear eK3
      obtain ⟨M, hM⟩ : ∃ M : Int, K3.tmod 3 = M := ⟨_, rfl⟩
      have hM2 : K3 % 3 = M := by rw [← hM, Int.tmod_eq_emod_of_nonneg k7]
      have HM2 := hide hM2
      clear hM2
      obtain ⟨bb, hbb⟩ : ∃ bb, (M == 0) = bb := ⟨_, rfl⟩
      have hrow3 := m3.setAt hat3 (unhide HA) 2 (by decide) (.bool bb) (marks K1 n1, marks K2 n2, bb) (fun e => rfl) (fun w' e o => ⟨o.1, o.2.1, trivial⟩)
      simp only [show vtK.m = 3 from rfl] at hrow3
      rw [List.set_set] at hrow3
      obtain ⟨W4, ew4⟩ : ∃ W, w3.setCell ⟨b, off + k * 3 + 2, none⟩ (.bool bb) = W := ⟨_, rfl⟩
      have only4 : OnlyP B d p w W4 := by
        refine o3.trans ?_
        rw [← ew4]
        exact ⟨(Below.refl _ _).setCell hbB3 _, fun g hg hs => heap_setCell_other w3 ⟨b, off + k * 3 + 2, none⟩ g _ (fun (e : g = b) => hs (by rw [e, hbd3]; exact List.prefix_rfl))⟩
      rw [ew4] at hrow3
      have hmk : mkVt K1 (z1, z2, zb) = (marks K1 n1, marks K2 n2, bb) := by
        unfold mkVt
        simp only [← unhide EN1, ← unhide EN2]
        rw [unhide HK2, unhide HK3, unhide HM2, ← hbb]
        simp only [Prod.mk.injEq, true_and]
        rw [Bool.eq_iff_iff]
        simp
      have hrow4 : RowOwn vtK 86 W4 B d p s ((mkR mkVt vtT k0 xs).take (k + 1) ++ xs.drop (k + 1)) := by
        rw [← hmk, unhide EL0, tk_set _ _ k _ (unhide HML) (unhide HMA2)] at hrow3
        exact hrow3
      have HR4 := hide hrow4
      have HO4 := hide only4
      have EW4 := hide ew4
      clear HD c1 b3 g3 m3 o3 hat3 hcb3 hcell3 hfz3 hst3 HST2 hbB3 hblt3 hbd3 hrow3 hrow4 only4 hmk ew4 HMA2
      go_wp2_with (rw [unhide EW4])
      go_roundw
      case rel => exact ⟨k + 1, by omega, by go_num, by rw [unhide HSN2, ← unhide HK3, ← unhide HK2, ← unhide HK1]; congr 1; omega, unhide HR4, unhide HO4⟩
      case measure => simp [intOf]; omega
    · obtain rfl : k = len := by omega
      have et : xs.take k = xs := List.take_of_length_le (by rw [← unhide HLEN]; exact Nat.le_refl _)
      rw [et]
      rw [tk_all _ _ k (unhide HML) (by rw [← unhide HLEN]; exact Nat.le_refl _)] at hm
      have HO := hide ho
      have HM := hide hm
      clear hm ho et
      go_wp2_with fail
      go_ret
      exact ⟨rfl, unhide HM, unhide HO⟩

end Go.Proofs.YtfhhnnlafdgloaaGreat

/- What is proved here: the contracts of the laws' helper functions that look for the marks in recents and votes (heldRecentS, heldVoteS). -/
namespace Go.Proofs.YtfhhnnlafdgloaaGreat
open Go.RowKit
set_option linter.unusedVariables false
set_option linter.unusedSimpArgs false
set_option maxRecDepth 100000

set_option maxHeartbeats 4000000 in
theorem heldRc_any (s : Sl) (xs : List Rc) (k0 : Int) (w : World) (h : RowOk rcK w s (mkR mkRc rcT k0 xs)) (hl : xs.length ≤ 1048576) (hs : lsum rcT xs ≤ 4194304) (hz : ∀ r ∈ xs, r.2.length ≤ 1048576) (hk0 : 0 ≤ k0) (hk1 : k0 ≤ 16777216) :
    Calls Tryz.prog 71 #[.slice s.a s.n s.c, .int .i64 k0] w fun e w' => e = .returned (.int .i64 (k0 + (lsum rcT xs : Nat))) ∧ w' = w := by
  have hsn : s.n = xs.length := by rw [← mkR_length mkRc rcT xs k0]; exact h.len
  have HSN := hide (ls_snoc rcT xs)
  have HLE := hide (ls_le rcT xs)
  have HMA := hide (mkR_at mkRc rcT xs k0)
  have HZ := hide hz
  have HM := hide h
  obtain ⟨len, hlen⟩ : ∃ len, len = xs.length := ⟨_, rfl⟩
  have HLEN := hide hlen
  rw [hsn]
  rw [← hlen] at hl hsn ⊢
  clear h hlen hz
  have HSL := hide hsn
  clear hsn
  generalize hsc : s.c = sc
  have HSC := hide hsc
  clear hsc
  generalize hsa : s.a = sa
  have HSA := hide hsa
  clear hsa
  go_enter Tryz.func71, Tryz.ntmps71
  go_wp2_with fail
  go_loopw [1, 5] (fun q i wr => ∃ k : Nat, k ≤ len ∧ i = .int .i64 k ∧ q = .int .i64 (k0 + (lsum rcT (xs.take k) : Nat)) ∧ wr = w) (fun _ i _ => len - (intOf i).toNat)
  case atStart => exact ⟨0, Nat.zero_le _, rfl, by simp [lsum], rfl⟩
  case round =>
    obtain ⟨k, hk, rfl, rfl, rfl⟩ := hrel
    by_cases hlt : k < len
    · obtain ⟨z, hit⟩ : ∃ z, xs[k]? = some z := ⟨_, List.getElem?_eq_getElem (by rw [← unhide HLEN]; exact hlt)⟩
      obtain ⟨b, off, ha, _, hat⟩ := (unhide HM).pos (by rw [unhide HSL]; omega)
      obtain ⟨e, hcell, hok⟩ := hat k _ ((unhide HMA) k z hit)
      have hsn := (unhide HSN) k z hit
      have hle1 := (unhide HLE) (k + 1)
      have hzl : z.2.length ≤ 1048576 := (unhide HZ) z (List.mem_of_getElem? hit)
      obtain ⟨ks, hks⟩ : ∃ ks, ks = lsum rcT (xs.take k) := ⟨_, rfl⟩
      rw [← hks] at hsn hcell hok ⊢
      have hksl : ks ≤ 4194304 := by omega
      obtain ⟨K1, eK1⟩ : ∃ K1 : Int, k0 + (ks : Int) = K1 := ⟨_, rfl⟩
      have HK1 := hide eK1
      have k3 : (0 : Int) ≤ K1 := by omega
      have k4 : K1 ≤ 33554432 := by omega
      rw [eK1] at hcell hok ⊢
      clear eK1
      have c0 := hcell 0 _ rfl
      have c1 := hcell 1 _ rfl
      simp only [show rcK.m = 2 from rfl, Nat.add_zero, mkRc] at c0 c1
      have hrow : BRow wr e.2.a e.2.n (marks (K1 + 1) z.2.length) := hok.2.row
      have hn1 : e.2.n = z.2.length := by have := hrow.1; rw [marks_length] at this; exact this.symm
      rw [hn1] at hrow c1
      have HC := hide (heldByteS_any z.2.length e.2.c e.2.a (K1 + 1) wr hrow (by omega) (by omega) (by omega))
      have HSN2 : Hid (lsum rcT (xs.take (k + 1)) = ks + (1 + z.2.length)) := hsn
      have k1 : (0 : Int) ≤ (k : Int) := by omega
      have k2 : (k : Int) < (len : Int) := by omega
      rw [unhide HSA] at ha
      subst ha
      generalize z.2.length = zl at c1 HC HSN2 hzl
      have k5 : decide (K1 + 1 + (zl : Int) < 0) = false := decide_eq_false (by omega)
      have k6 : (K1 != K1) = false := by simp
      clear hsn hle1 hit hks hat hcell hok hrow hn1
      go_wp2_with fail
      refine (unhide HC).mono ?_
      rintro e w2 ⟨rfl, rfl⟩
      go_wp2_with fail
      go_roundw
      case rel => exact ⟨k + 1, by omega, by go_num, by rw [unhide HSN2, ← unhide HK1]; congr 1; omega, by first | exact rfl | trivial⟩
      case measure => simp [intOf]; omega
    · obtain rfl : k = len := by omega
      have et : xs.take k = xs := List.take_of_length_le (by rw [← unhide HLEN]; exact Nat.le_refl _)
      rw [et]
      clear et
      go_wp2_with fail
      go_ret
      exact ⟨rfl, rfl⟩

set_option maxHeartbeats 4000000 in
theorem heldVt_any (s : Sl) (xs : List Vt) (k0 : Int) (w : World) (h : RowOk vtK w s (mkR mkVt vtT k0 xs)) (hl : xs.length ≤ 1048576) (hs : lsum vtT xs ≤ 4194304) (hz : ∀ r ∈ xs, r.1.length ≤ 1048576 ∧ r.2.1.length ≤ 1048576) (hk0 : 0 ≤ k0) (hk1 : k0 ≤ 16777216) :
    Calls Tryz.prog 72 #[.slice s.a s.n s.c, .int .i64 k0] w fun e w' => e = .returned (.int .i64 (k0 + (lsum vtT xs : Nat))) ∧ w' = w := by
  have hsn : s.n = xs.length := by rw [← mkR_length mkVt vtT xs k0]; exact h.len
  have HSN := hide (ls_snoc vtT xs)
  have HLE := hide (ls_le vtT xs)
  have HMA := hide (mkR_at mkVt vtT xs k0)
  have HZ := hide hz
  have HM := hide h
  obtain ⟨len, hlen⟩ : ∃ len, len = xs.length := ⟨_, rfl⟩
  have HLEN := hide hlen
  rw [hsn]
  rw [← hlen] at hl hsn ⊢
  clear h hlen hz
  have HSL := hide hsn
  clear hsn
  generalize hsc : s.c = sc
  have HSC := hide hsc
  clear hsc
  generalize hsa : s.a = sa
  have HSA := hide hsa
  clear hsa
  go_enter Tryz.func72, Tryz.ntmps72
  go_wp2_with fail
  go_loopw [1, 5] (fun q i wr => ∃ k : Nat, k ≤ len ∧ i = .int .i64 k ∧ q = .int .i64 (k0 + (lsum vtT (xs.take k) : Nat)) ∧ wr = w) (fun _ i _ => len - (intOf i).toNat)
  case atStart => exact ⟨0, Nat.zero_le _, rfl, by simp [lsum], rfl⟩
  case round =>
    obtain ⟨k, hk, rfl, rfl, rfl⟩ := hrel
    by_cases hlt : k < len
    · obtain ⟨z, hit⟩ : ∃ z, xs[k]? = some z := ⟨_, List.getElem?_eq_getElem (by rw [← unhide HLEN]; exact hlt)⟩
      obtain ⟨b, off, ha, _, hat⟩ := (unhide HM).pos (by rw [unhide HSL]; omega)
      obtain ⟨e, hcell, hok⟩ := hat k _ ((unhide HMA) k z hit)
      have hsn := (unhide HSN) k z hit
      have hle1 := (unhide HLE) (k + 1)
      obtain ⟨hz1, hz2⟩ := (unhide HZ) z (List.mem_of_getElem? hit)
      obtain ⟨ks, hks⟩ : ∃ ks, ks = lsum vtT (xs.take k) := ⟨_, rfl⟩
      rw [← hks] at hsn hcell hok ⊢
      have hksl : ks ≤ 4194304 := by omega
      obtain ⟨K1, eK1⟩ : ∃ K1 : Int, k0 + (ks : Int) = K1 := ⟨_, rfl⟩
      have HK1 := hide eK1
      have k3 : (0 : Int) ≤ K1 := by omega
      have k4 : K1 ≤ 33554432 := by omega
      rw [eK1] at hcell hok ⊢
      clear eK1
      have c0 := hcell 0 _ rfl
      have c1 := hcell 1 _ rfl
      have c2 := hcell 2 _ rfl
      simp only [show vtK.m = 3 from rfl, Nat.add_zero] at c0 c1 c2
      obtain ⟨z1, z2, zb⟩ := z
      obtain ⟨e1, e2, ⟨⟩⟩ := e
      simp only [mkVt] at hok c0 c1 c2 hz1 hz2
      have hr1 : BRow wr e1.a e1.n (marks K1 z1.length) := hok.1.row
      have hr2 : BRow wr e2.a e2.n (marks (K1 + (z1.length : Nat)) z2.length) := hok.2.1.row
      have hn1 : e1.n = z1.length := by have := hr1.1; rw [marks_length] at this; exact this.symm
      have hn2 : e2.n = z2.length := by have := hr2.1; rw [marks_length] at this; exact this.symm
      rw [hn1] at hr1 c0
      rw [hn2] at hr2 c1
      have HSN2 : Hid (lsum vtT (xs.take (k + 1)) = ks + (z1.length + z2.length + 1)) := hsn
      generalize z1.length = n1 at c0 c1 c2 hr1 hr2 HSN2 hz1
      generalize z2.length = n2 at c1 c2 hr2 HSN2 hz2
      have HC := hide (heldByteS_any n1 e1.c e1.a K1 wr hr1 (by omega) (by omega) (by omega))
      obtain ⟨K2, eK2⟩ : ∃ K2 : Int, K1 + (n1 : Int) = K2 := ⟨_, rfl⟩
      have HK2 := hide eK2
      have k5 : (0 : Int) ≤ K2 := by omega
      have k6 : K2 ≤ 67108864 := by omega
      rw [eK2] at hr2 c2 HC
      clear eK2
      have HD := hide (heldByteS_any n2 e2.c e2.a K2 wr hr2 (by omega) (by omega) (by omega))
      obtain ⟨K3, eK3⟩ : ∃ K3 : Int, K2 + (n2 : Int) = K3 := ⟨_, rfl⟩
      have HK3 := hide eK3
      have k7 : (0 : Int) ≤ K3 := by omega
      have k8 : K3 ≤ 134217728 := by omega
      rw [eK3] at c2 HD
      clear eK3
      have k9 : decide (K2 < 0) = false := decide_eq_false (by omega)
      have k10 : decide (K3 < 0) = false := decide_eq_false (by omega)
      obtain ⟨M, hM⟩ : ∃ M : Int, K3.tmod 3 = M := ⟨_, rfl⟩
      have hM2 : K3 % 3 = M := by rw [← hM, Int.tmod_eq_emod_of_nonneg k7]
      obtain ⟨bb, hbb⟩ : ∃ bb, (M == 0) = bb := ⟨_, rfl⟩
      have hdb : decide (K3 % 3 = 0) = bb := by rw [hM2, ← hbb, Bool.eq_iff_iff]; simp
      rw [hdb] at c2
      clear hM2 hdb
      have k11 : (bb != bb) = false := by simp
      have k1 : (0 : Int) ≤ (k : Int) := by omega
      have k2 : (k : Int) < (len : Int) := by omega
      rw [unhide HSA] at ha
      subst ha
      clear hsn hle1 hit hks hat hcell hok hr1 hr2 hn1 hn2
      go_wp2_with fail
      refine (unhide HC).mono ?_
      rintro r1 w2 ⟨rfl, rfl⟩
      go_wp2_with fail
      refine (unhide HD).mono ?_
      rintro r1 w3 ⟨rfl, rfl⟩
      go_wp2_with fail
      go_roundw
      case rel => exact ⟨k + 1, by omega, by go_num, by rw [unhide HSN2, ← unhide HK3, ← unhide HK2, ← unhide HK1]; congr 1; omega, by first | exact rfl | trivial⟩
      case measure => simp [intOf]; omega
    · obtain rfl : k = len := by omega
      have et : xs.take k = xs := List.take_of_length_le (by rw [← unhide HLEN]; exact Nat.le_refl _)
      rw [et]
      clear et
      go_wp2_with fail
      go_ret
      exact ⟨rfl, rfl⟩

end Go.Proofs.YtfhhnnlafdgloaaGreat

/- What is proved here: the contract of the laws' helper function that counts bytes (szByteS). -/
namespace Go.Proofs.YtfhhnnlafdgloaaGreat
open Go.RowKit
set_option linter.unusedVariables false
set_option maxRecDepth 100000

theorem szByteS_any (a : Option Addr) (n cap : Nat) (left : Int) (w : World) (h0 : 0 ≤ left) (h1 : left ≤ 1099511627776) (hn : n ≤ maxLen) :
    Calls Tryz.prog 41 #[.slice a n cap, .int .i64 left] w fun e w' => e = .returned (.int .i64 (if left - n < 0 then -1 else left - n)) ∧ w' = w := by
  unfold maxLen at hn
  by_cases h : left - n < 0
  · rw [if_pos h]
    have hd : decide (left - (n : Int) < 0) = true := decide_eq_true h
    go_enter Tryz.func41, Tryz.ntmps41
    go_wp2
    go_ret
    exact ⟨rfl, rfl⟩
  · rw [if_neg h]
    have hd : decide (left - (n : Int) < 0) = false := decide_eq_false h
    go_enter Tryz.func41, Tryz.ntmps41
    go_wp2
    go_ret
    exact ⟨rfl, rfl⟩

end Go.Proofs.YtfhhnnlafdgloaaGreat
