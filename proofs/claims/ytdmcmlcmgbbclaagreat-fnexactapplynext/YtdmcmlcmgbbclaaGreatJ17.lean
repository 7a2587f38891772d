/- What is proved here: the contracts of the laws' helper functions that mark recents and votes that a call made, told by paths: what they leave, and that nothing else is written (markRecentS, markVoteS). -/
import Derived.Test.YtdmcmlcmgbbclaaGreatJ16
import Derived.Test.YtdmcmlcmgbbclaaGreatJ5
import Derived.Test.YtdmcmlcmgbbclaaGreatJ7
namespace Go.Proofs.YtdmcmlcmgbbclaaGreat
set_option linter.unusedVariables false
set_option linter.unusedSimpArgs false
open Go.RowKit
set_option maxRecDepth 100000

/-- A row whose elements are marked one behind another: f marks one from a number on, t tells how many numbers it takes. -/
def mkR {α : Type} (f : Int → α → α) (t : α → Nat) : Int → List α → List α
 | _, [] => []
 | k, x :: r => f k x :: mkR f t (k + (t x : Nat)) r

theorem mkR_length {α : Type} (f : Int → α → α) (t : α → Nat) : ∀ (xs : List α) (k : Int), (mkR f t k xs).length = xs.length
 | [], k => rfl
 | x :: r, k => by rw [mkR, List.length_cons, List.length_cons, mkR_length f t r]

theorem mkR_at {α : Type} (f : Int → α → α) (t : α → Nat) : ∀ (xs : List α) (k : Int) (i : Nat) (x : α), xs[i]? = some x → (mkR f t k xs)[i]? = some (f (k + (lsum t (xs.take i) : Nat)) x)
 | [], k, i, x, h => by simp at h
 | a :: r, k, 0, x, h => by
  simp at h
  subst h
  simp [mkR, lsum]
 | a :: r, k, i + 1, x, h => by
  rw [List.getElem?_cons_succ] at h
  rw [mkR, List.getElem?_cons_succ, mkR_at f t r _ i x h]
  congr 2
  simp only [lsum, List.take_succ_cons, List.map_cons, List.sum_cons]
  omega

theorem ls_snoc {α : Type} (t : α → Nat) (xs : List α) (k : Nat) (x : α) (h : xs[k]? = some x) : lsum t (xs.take (k + 1)) = lsum t (xs.take k) + t x := by
 obtain ⟨hk, e⟩ := List.getElem?_eq_some_iff.1 h
 unfold lsum
 rw [List.take_succ_eq_append_getElem hk, e]
 simp

theorem ls_le {α : Type} (t : α → Nat) (xs : List α) (k : Nat) : lsum t (xs.take k) ≤ lsum t xs := by
 have e : lsum t xs = lsum t (xs.take k) + lsum t (xs.drop k) := by
  unfold lsum
  rw [← List.sum_append, ← List.map_append, List.take_append_drop]
 omega

theorem tk_at {α : Type} (m l : List α) (k : Nat) (h : m.length = l.length) : (m.take k ++ l.drop k)[k]? = l[k]? := by
 by_cases hk : k ≤ m.length
 · rw [List.getElem?_append_right (by rw [List.length_take]; omega), List.length_take, Nat.min_eq_left hk, Nat.sub_self, List.getElem?_drop, Nat.add_zero]
 · rw [List.getElem?_eq_none (by rw [List.length_append, List.length_take, List.length_drop]; omega), List.getElem?_eq_none (by omega)]

theorem tk_set {α : Type} (m l : List α) (k : Nat) (x : α) (h : m.length = l.length) (hx : m[k]? = some x) : (m.take k ++ l.drop k).set k x = m.take (k + 1) ++ l.drop (k + 1) := by
 obtain ⟨hk, e⟩ := List.getElem?_eq_some_iff.1 hx
 have hl : (m.take k).length = k := by rw [List.length_take]; omega
 rw [List.set_append, if_neg (by omega), hl, Nat.sub_self, List.drop_eq_getElem_cons (by omega), List.set_cons_zero, List.take_succ_eq_append_getElem hk, e, List.append_assoc]
 rfl

theorem tk_all {α : Type} (m l : List α) (k : Nat) (h : m.length = l.length) (hk : l.length ≤ k) : m.take k ++ l.drop k = m := by
 rw [List.take_of_length_le (by omega), List.drop_eq_nil_of_le hk, List.append_nil]

/-- A recent marked from a number on, and how many numbers it takes. -/
def mkRc (k : Int) (r : Rc) : Rc := (k, marks (k + 1) r.2.length)
def rcT (r : Rc) : Nat := 1 + r.2.length
/-- A vote marked from a number on, and how many numbers it takes. -/
def mkVt (k : Int) (v : Vt) : Vt := (marks k v.1.length, marks (k + (v.1.length : Nat)) v.2.1.length, decide ((k + (v.1.length : Nat) + (v.2.1.length : Nat)) % 3 = 0))
def vtT (v : Vt) : Nat := v.1.length + v.2.1.length + 1

set_option maxHeartbeats 4000000 in
theorem markRc_p (B : Nat) (d : Nat → Path) (p : Path) (s : Sl) (xs : List Rc) (k0 : Int) (w : World) (h : RowOwn rcK 93 w B d p s xs) (hB : B ≤ w.heap.size) (hl : xs.length ≤ 1048576) (hs : lsum rcT xs ≤ 4194304) (hz : ∀ r ∈ xs, r.2.length ≤ 1048576) (hk0 : 0 ≤ k0) (hk1 : k0 ≤ 16777216) :
    Calls Tryz.prog 44 #[.slice s.a s.n s.c, .int .i64 k0] w fun e w' => e = .returned (.int .i64 (k0 + (lsum rcT xs : Nat))) ∧ RowOwn rcK 93 w' B d p s (mkR mkRc rcT k0 xs) ∧ OnlyP B d p w w' := by
 have hsn : s.n = xs.length := h.1
 have HSN := hide (ls_snoc rcT xs)
 have HLE := hide (ls_le rcT xs)
 have HMA := hide (mkR_at mkRc rcT xs k0)
 have HML := hide (mkR_length mkRc rcT xs k0)
 have HZ := hide hz
 have HM := hide h
 obtain ⟨len, hlen⟩ : ∃ len, len = xs.length := ⟨_, rfl⟩
 have HLEN := hide hlen
 rw [hsn]
 rw [← hlen] at hl hsn ⊢
 clear h hlen hz
 have HSL := hide hsn
 clear hsn
 generalize hsc : s.c = sc
 have HSC := hide hsc
 clear hsc
 generalize hsa : s.a = sa
 have HSA := hide hsa
 clear hsa
 go_enter Tryz.func44, Tryz.ntmps44
 go_wp2_with fail
 go_loopw [1, 5] (fun q i wr => ∃ k : Nat, k ≤ len ∧ i = .int .i64 k ∧ q = .int .i64 (k0 + (lsum rcT (xs.take k) : Nat)) ∧ RowOwn rcK 93 wr B d p s ((mkR mkRc rcT k0 xs).take k ++ xs.drop k) ∧ OnlyP B d p w wr) (fun _ i _ => len - (intOf i).toNat)
 case atStart => exact ⟨0, Nat.zero_le _, rfl, by simp [lsum], by simpa using unhide HM, OnlyP.refl _ _ _ _⟩
 case round =>
  obtain ⟨k, hk, rfl, rfl, hm, ho⟩ := hrel
  clear HM
  by_cases hlt : k < len
  · obtain ⟨z, hit⟩ : ∃ z, xs[k]? = some z := ⟨_, List.getElem?_eq_getElem (by rw [← unhide HLEN]; exact hlt)⟩
    have hat := (tk_at (mkR mkRc rcT k0 xs) xs k (unhide HML)).trans hit
    obtain ⟨b, off, e, ha, hbB, hblt, hbd, hcb, hcell, hfz, hst⟩ := hm.swap hat
    have hma := (unhide HMA) k z hit
    have hsn := (unhide HSN) k z hit
    have hle1 := (unhide HLE) (k + 1)
    have hzl : z.2.length ≤ 1048576 := (unhide HZ) z (List.mem_of_getElem? hit)
    obtain ⟨ks, hks⟩ : ∃ ks, ks = lsum rcT (xs.take k) := ⟨_, rfl⟩
    rw [← hks] at hsn hma ⊢
    have hksl : ks ≤ 4194304 := by omega
    have hBr : B ≤ wr.heap.size := Nat.le_trans hB ho.1.size
    have c0 := hcell 0 _ rfl
    have f0 := hfz (off + k * 2 + 0)
    simp only [show rcK.m = 2 from rfl, Nat.add_zero] at c0 f0
    have hrow1 := hm.setAt hat ha 0 (by decide) (.int .i64 (k0 + ks)) (k0 + (ks : Int), z.2) (fun e => rfl) (fun w' e o => ⟨(show in64 (k0 + (ks : Int)) by unfold in64; omega), o.2⟩)
    simp only [show rcK.m = 2 from rfl, Nat.add_zero] at hrow1
    obtain ⟨W1, ew1⟩ : ∃ W, wr.setCell ⟨b, off + k * 2, none⟩ (.int .i64 (k0 + ks)) = W := ⟨_, rfl⟩
    have only1 : OnlyP B d p wr W1 := by
     rw [← ew1]
     exact ⟨(Below.refl _ _).setCell hbB _, fun g hg hs => heap_setCell_other wr ⟨b, off + k * 2, none⟩ g _ (fun (e : g = b) => hs (by rw [e, hbd]; exact List.prefix_rfl))⟩
    rw [ew1] at hrow1
    have hl1 : ((mkR mkRc rcT k0 xs).take k ++ xs.drop k).length = xs.length := by rw [List.length_append, List.length_take, List.length_drop, unhide HML]; omega
    have hat1 : (((mkR mkRc rcT k0 xs).take k ++ xs.drop k).set k (k0 + (ks : Int), z.2))[k]? = some (k0 + (ks : Int), z.2) := List.getElem?_set_self (by rw [hl1, ← unhide HLEN]; exact hlt)
    obtain ⟨b', off', e', ha', _, _, _, hcb1, hcell1, _, hst1⟩ := hrow1.swap hat1
    rw [ha] at ha'
    simp only [Option.some.injEq, Addr.mk.injEq, and_true] at ha'
    obtain ⟨rfl, rfl⟩ := ha'
    have c1 := hcell1 1 _ rfl
    simp only [show rcK.m = 2 from rfl] at c1
    have hBr1 : B ≤ W1.heap.size := Nat.le_trans hBr only1.1.size
    have HC := hide (markB_p B d (p ++ [k] ++ [1]) e'.2 z.2 (k0 + ks + 1) W1 hcb1.2 hBr1 hzl (by omega) (by omega))
    have HST : Hid (∀ w', BOwn w' B d (p ++ [k] ++ [1]) e'.2 (marks (k0 + ks + 1) z.2.length) → OnlyP B d (p ++ [k] ++ [1]) W1 w' → RowOwn rcK 93 w' B d p s ((mkR mkRc rcT k0 xs).take (k + 1) ++ xs.drop (k + 1)) ∧ OnlyP B d p w w') := fun w' hb hw => by
     have := hst1 w' (mkRc (k0 + ks) z) hw.up (pairR hcb1 hb hw) rfl
     rw [List.set_set, tk_set _ _ k _ (unhide HML) hma] at this
     exact ⟨this, (ho.trans only1).trans hw.up.up⟩
    have HSN2 : Hid (lsum rcT (xs.take (k + 1)) = ks + (1 + z.2.length)) := hsn
    have k1 : (0 : Int) ≤ (k : Int) := by omega
    have k2 : (k : Int) < (len : Int) := by omega
    have k3 : (0 : Int) ≤ k0 + (ks : Int) := by omega
    rw [unhide HSA] at ha
    subst ha
    generalize z.2.length = zl at HC HST HSN2 hzl
    obtain ⟨K1, eK1⟩ : ∃ K1 : Int, k0 + (ks : Int) = K1 := ⟨_, rfl⟩
    have HK1 := hide eK1
    rw [eK1] at ew1 k3 HC HST ⊢
    have k4 : K1 ≤ 33554432 := by omega
    clear hsn hle1 hit ho hks hm hat hcb hst hma hcell hfz hrow1 hat1 hl1 hcb1 hcell1 hst1 only1 eK1
    have EW1 := hide ew1
    clear ew1
    go_wp2_with (rw [unhide EW1])
    refine (unhide HC).mono ?_
    rintro e w2 ⟨rfl, b2, g2⟩
    obtain ⟨m2, o2⟩ := (unhide HST) w2 b2 g2
    have HM2 := hide m2
    have HO2 := hide o2
    clear m2 o2 g2 b2
    go_wp2_with fail
    go_roundw
    case rel => exact ⟨k + 1, by omega, by go_num, by rw [unhide HSN2, ← unhide HK1]; congr 1; omega, unhide HM2, unhide HO2⟩
    case measure => simp [intOf]; omega
  · obtain rfl : k = len := by omega
    have et : xs.take k = xs := List.take_of_length_le (by rw [← unhide HLEN]; exact Nat.le_refl _)
    rw [et]
    rw [tk_all _ _ k (unhide HML) (by rw [← unhide HLEN]; exact Nat.le_refl _)] at hm
    have HO := hide ho
    have HM := hide hm
    clear hm ho et
    go_wp2_with fail
    go_ret
    exact ⟨rfl, unhide HM, unhide HO⟩

set_option maxHeartbeats 4000000 in
theorem markVt_p (B : Nat) (d : Nat → Path) (p : Path) (s : Sl) (xs : List Vt) (k0 : Int) (w : World) (h : RowOwn vtK 97 w B d p s xs) (hB : B ≤ w.heap.size) (hl : xs.length ≤ 1048576) (hs : lsum vtT xs ≤ 4194304) (hz : ∀ r ∈ xs, r.1.length ≤ 1048576 ∧ r.2.1.length ≤ 1048576) (hk0 : 0 ≤ k0) (hk1 : k0 ≤ 16777216) :
    Calls Tryz.prog 45 #[.slice s.a s.n s.c, .int .i64 k0] w fun e w' => e = .returned (.int .i64 (k0 + (lsum vtT xs : Nat))) ∧ RowOwn vtK 97 w' B d p s (mkR mkVt vtT k0 xs) ∧ OnlyP B d p w w' := by
 have hsn : s.n = xs.length := h.1
 have HSN := hide (ls_snoc vtT xs)
 have HLE := hide (ls_le vtT xs)
 have HMA := hide (mkR_at mkVt vtT xs k0)
 have HML := hide (mkR_length mkVt vtT xs k0)
 have HZ := hide hz
 have HM := hide h
 obtain ⟨len, hlen⟩ : ∃ len, len = xs.length := ⟨_, rfl⟩
 have HLEN := hide hlen
 rw [hsn]
 rw [← hlen] at hl hsn ⊢
 clear h hlen hz
 have HSL := hide hsn
 clear hsn
 generalize hsc : s.c = sc
 have HSC := hide hsc
 clear hsc
 generalize hsa : s.a = sa
 have HSA := hide hsa
 clear hsa
 go_enter Tryz.func45, Tryz.ntmps45
 go_wp2_with fail
 go_loopw [1, 5] (fun q i wr => ∃ k : Nat, k ≤ len ∧ i = .int .i64 k ∧ q = .int .i64 (k0 + (lsum vtT (xs.take k) : Nat)) ∧ RowOwn vtK 97 wr B d p s ((mkR mkVt vtT k0 xs).take k ++ xs.drop k) ∧ OnlyP B d p w wr) (fun _ i _ => len - (intOf i).toNat)
 case atStart => exact ⟨0, Nat.zero_le _, rfl, by simp [lsum], by simpa using unhide HM, OnlyP.refl _ _ _ _⟩
 case round =>
  obtain ⟨k, hk, rfl, rfl, hm, ho⟩ := hrel
  clear HM
  by_cases hlt : k < len
  · obtain ⟨z, hit⟩ : ∃ z, xs[k]? = some z := ⟨_, List.getElem?_eq_getElem (by rw [← unhide HLEN]; exact hlt)⟩
    have hat := (tk_at (mkR mkVt vtT k0 xs) xs k (unhide HML)).trans hit
    have hlL : ((mkR mkVt vtT k0 xs).take k ++ xs.drop k).length = len := by rw [List.length_append, List.length_take, List.length_drop, unhide HML]; have := unhide HLEN; omega
    obtain ⟨b, off, e, ha, hbB, hblt, hbd, hcb, hcell, hfz, hst⟩ := hm.swap hat
    have hma := (unhide HMA) k z hit
    have hsn := (unhide HSN) k z hit
    have hle1 := (unhide HLE) (k + 1)
    obtain ⟨hz1, hz2⟩ := (unhide HZ) z (List.mem_of_getElem? hit)
    obtain ⟨ks, hks⟩ : ∃ ks, ks = lsum vtT (xs.take k) := ⟨_, rfl⟩
    rw [← hks] at hsn hma ⊢
    have hksl : ks ≤ 4194304 := by omega
    have hBr : B ≤ wr.heap.size := Nat.le_trans hB ho.1.size
    have c0 := hcell 0 _ rfl
    simp only [show vtK.m = 3 from rfl, Nat.add_zero] at c0
    obtain ⟨K1, eK1⟩ : ∃ K1 : Int, k0 + (ks : Int) = K1 := ⟨_, rfl⟩
    have HK1 := hide eK1
    have k3 : (0 : Int) ≤ K1 := by omega
    have k4 : K1 ≤ 33554432 := by omega
    rw [eK1] at hma ⊢
    clear eK1
    have HC := hide (markB_p B d (p ++ [k] ++ [0]) e.1 z.1 K1 wr hcb.1 hBr hz1 (by omega) (by omega))
    -- the row behind the first marks
    have HST : Hid (∀ w', BOwn w' B d (p ++ [k] ++ [0]) e.1 (marks K1 z.1.length) → OnlyP B d (p ++ [k] ++ [0]) wr w' → RowOwn vtK 97 w' B d p s (((mkR mkVt vtT k0 xs).take k ++ xs.drop k).set k (marks K1 z.1.length, z.2)) ∧ OnlyP B d p w w') := fun w' hb hw =>
     ⟨hst w' (marks K1 z.1.length, z.2) hw.up (pairL hcb hb hw) rfl, ho.trans hw.up.up⟩
    have HSN2 : Hid (lsum vtT (xs.take (k + 1)) = ks + (z.1.length + z.2.1.length + 1)) := hsn
    have k1 : (0 : Int) ≤ (k : Int) := by omega
    have k2 : (k : Int) < (len : Int) := by omega
    have HA := hide ha
    rw [unhide HSA] at ha
    subst ha
    have HMA2 := hide hma
    have HHL := hide hlL
    obtain ⟨L0, eL0⟩ : ∃ L0, L0 = (mkR mkVt vtT k0 xs).take k ++ xs.drop k := ⟨_, rfl⟩
    rw [← eL0] at HST HHL
    have EL0 := hide eL0
    obtain ⟨z1, z2, zb⟩ := z
    simp only at hz1 hz2 HC HST HSN2 HMA2
    obtain ⟨n1, en1⟩ : ∃ n1, n1 = z1.length := ⟨_, rfl⟩
    rw [← en1] at HC HST HSN2 hz1
    have EN1 := hide en1
    clear hsn hle1 hit ho hks hm hat hcb hst hma hcell hfz hlL eL0 en1
    go_wp2_with fail
    refine (unhide HC).mono ?_
    rintro r1 w2 ⟨rfl, b2, g2⟩
    obtain ⟨m2, o2⟩ := (unhide HST) w2 b2 g2
    have hat2 : (L0.set k (marks K1 n1, z2, zb))[k]? = some (marks K1 n1, z2, zb) := List.getElem?_set_self (by rw [unhide HHL]; exact hlt)
    obtain ⟨b', off', e', ha', hbB', hblt', hbd', hcb2, hcell2, hfz2, hst2⟩ := m2.swap hat2
    rw [unhide HA] at ha'
    simp only [Option.some.injEq, Addr.mk.injEq, and_true] at ha'
    obtain ⟨rfl, rfl⟩ := ha'
    have c1 := hcell2 1 _ rfl
    simp only [show vtK.m = 3 from rfl] at c1
    obtain ⟨K2, eK2⟩ : ∃ K2 : Int, K1 + (n1 : Int) = K2 := ⟨_, rfl⟩
    have HK2 := hide eK2
    have k5 : (0 : Int) ≤ K2 := by omega
    have k6 : K2 ≤ 67108864 := by omega
    rw [eK2]
    clear eK2
    have hB2 : B ≤ w2.heap.size := Nat.le_trans hB o2.1.size
    have HD := hide (markB_p B d (p ++ [k] ++ [1] ++ [0]) e'.2.1 z2 K2 w2 hcb2.2.1 hB2 hz2 (by omega) (by omega))
    obtain ⟨n2, en2⟩ : ∃ n2, n2 = z2.length := ⟨_, rfl⟩
    rw [← en2] at HD HSN2 hz2
    have EN2 := hide en2
    have HST2 : Hid (∀ w', BOwn w' B d (p ++ [k] ++ [1] ++ [0]) e'.2.1 (marks K2 n2) → OnlyP B d (p ++ [k] ++ [1] ++ [0]) w2 w' → RowOwn vtK 97 w' B d p s (L0.set k (marks K1 n1, marks K2 n2, zb)) ∧ OnlyP B d p w w') := fun w' hb hw => by
     have := hst2 w' (marks K1 n1, marks K2 n2, zb) hw.up.up (pairR hcb2 (pairL hcb2.2 hb hw) hw.up) rfl
     rw [List.set_set] at this
     exact ⟨this, o2.trans hw.up.up.up⟩
    clear HC c0 b2 g2 m2 o2 hat2 hcb2 hcell2 hfz2 hst2 HST en2 hbB' hblt' hbd'
    go_wp2_with fail
    refine (unhide HD).mono ?_
    rintro r2 w3 ⟨rfl, b3, g3⟩
    obtain ⟨m3, o3⟩ := (unhide HST2) w3 b3 g3
    have hat3 : (L0.set k (marks K1 n1, marks K2 n2, zb))[k]? = some (marks K1 n1, marks K2 n2, zb) := List.getElem?_set_self (by rw [unhide HHL]; exact hlt)
    obtain ⟨b', off', e3, ha', hbB3, hblt3, hbd3, hcb3, hcell3, hfz3, hst3⟩ := m3.swap hat3
    rw [unhide HA] at ha'
    simp only [Option.some.injEq, Addr.mk.injEq, and_true] at ha'
    obtain ⟨rfl, rfl⟩ := ha'
    have c2 := hcell3 2 _ rfl
    have f2 := hfz3 (off + k * 3 + 2)
    simp only [show vtK.m = 3 from rfl] at c2
    obtain ⟨K3, eK3⟩ : ∃ K3 : Int, K2 + (n2 : Int) = K3 := ⟨_, rfl⟩
    have HK3 := hide eK3
    have k7 : (0 : Int) ≤ K3 := by omega
    have k8 : K3 ≤ 134217728 := by omega
    rw [eK3]
    clear eK3
    obtain ⟨M, hM⟩ : ∃ M : Int, K3.tmod 3 = M := ⟨_, rfl⟩
    have hM2 : K3 % 3 = M := by rw [← hM, Int.tmod_eq_emod_of_nonneg k7]
    have HM2 := hide hM2
    clear hM2
    obtain ⟨bb, hbb⟩ : ∃ bb, (M == 0) = bb := ⟨_, rfl⟩
    have hrow3 := m3.setAt hat3 (unhide HA) 2 (by decide) (.bool bb) (marks K1 n1, marks K2 n2, bb) (fun e => rfl) (fun w' e o => ⟨o.1, o.2.1, trivial⟩)
    simp only [show vtK.m = 3 from rfl] at hrow3
    rw [List.set_set] at hrow3
    obtain ⟨W4, ew4⟩ : ∃ W, w3.setCell ⟨b, off + k * 3 + 2, none⟩ (.bool bb) = W := ⟨_, rfl⟩
    have only4 : OnlyP B d p w W4 := by
     refine o3.trans ?_
     rw [← ew4]
     exact ⟨(Below.refl _ _).setCell hbB3 _, fun g hg hs => heap_setCell_other w3 ⟨b, off + k * 3 + 2, none⟩ g _ (fun (e : g = b) => hs (by rw [e, hbd3]; exact List.prefix_rfl))⟩
    rw [ew4] at hrow3
    have hmk : mkVt K1 (z1, z2, zb) = (marks K1 n1, marks K2 n2, bb) := by
     unfold mkVt
     simp only [← unhide EN1, ← unhide EN2]
     rw [unhide HK2, unhide HK3, unhide HM2, ← hbb]
     simp only [Prod.mk.injEq, true_and]
     rw [Bool.eq_iff_iff]
     simp
    have hrow4 : RowOwn vtK 97 W4 B d p s ((mkR mkVt vtT k0 xs).take (k + 1) ++ xs.drop (k + 1)) := by
     rw [← hmk, unhide EL0, tk_set _ _ k _ (unhide HML) (unhide HMA2)] at hrow3
     exact hrow3
    have HR4 := hide hrow4
    have HO4 := hide only4
    have EW4 := hide ew4
    clear HD c1 b3 g3 m3 o3 hat3 hcb3 hcell3 hfz3 hst3 HST2 hbB3 hblt3 hbd3 hrow3 hrow4 only4 hmk ew4 HMA2
    go_wp2_with (rw [unhide EW4])
    go_roundw
    case rel => exact ⟨k + 1, by omega, by go_num, by rw [unhide HSN2, ← unhide HK3, ← unhide HK2, ← unhide HK1]; congr 1; omega, unhide HR4, unhide HO4⟩
    case measure => simp [intOf]; omega
  · obtain rfl : k = len := by omega
    have et : xs.take k = xs := List.take_of_length_le (by rw [← unhide HLEN]; exact Nat.le_refl _)
    rw [et]
    rw [tk_all _ _ k (unhide HML) (by rw [← unhide HLEN]; exact Nat.le_refl _)] at hm
    have HO := hide ho
    have HM := hide hm
    clear hm ho et
    go_wp2_with fail
    go_ret
    exact ⟨rfl, unhide HM, unhide HO⟩

set_option maxRecDepth 100000

set_option maxHeartbeats 4000000 in
theorem heldRc_any (s : Sl) (xs : List Rc) (k0 : Int) (w : World) (h : RowOk rcK w s (mkR mkRc rcT k0 xs)) (hl : xs.length ≤ 1048576) (hs : lsum rcT xs ≤ 4194304) (hz : ∀ r ∈ xs, r.2.length ≤ 1048576) (hk0 : 0 ≤ k0) (hk1 : k0 ≤ 16777216) :
    Calls Tryz.prog 84 #[.slice s.a s.n s.c, .int .i64 k0] w fun e w' => e = .returned (.int .i64 (k0 + (lsum rcT xs : Nat))) ∧ w' = w := by
 have hsn : s.n = xs.length := by rw [← mkR_length mkRc rcT xs k0]; exact h.len
 have HSN := hide (ls_snoc rcT xs)
 have HLE := hide (ls_le rcT xs)
 have HMA := hide (mkR_at mkRc rcT xs k0)
 have HZ := hide hz
 have HM := hide h
 obtain ⟨len, hlen⟩ : ∃ len, len = xs.length := ⟨_, rfl⟩
 have HLEN := hide hlen
 rw [hsn]
 rw [← hlen] at hl hsn ⊢
 clear h hlen hz
 have HSL := hide hsn
 clear hsn
 generalize hsc : s.c = sc
 have HSC := hide hsc
 clear hsc
 generalize hsa : s.a = sa
 have HSA := hide hsa
 clear hsa
 go_enter Tryz.func84, Tryz.ntmps84
 go_wp2_with fail
 go_loopw [1, 5] (fun q i wr => ∃ k : Nat, k ≤ len ∧ i = .int .i64 k ∧ q = .int .i64 (k0 + (lsum rcT (xs.take k) : Nat)) ∧ wr = w) (fun _ i _ => len - (intOf i).toNat)
 case atStart => exact ⟨0, Nat.zero_le _, rfl, by simp [lsum], rfl⟩
 case round =>
  obtain ⟨k, hk, rfl, rfl, rfl⟩ := hrel
  by_cases hlt : k < len
  · obtain ⟨z, hit⟩ : ∃ z, xs[k]? = some z := ⟨_, List.getElem?_eq_getElem (by rw [← unhide HLEN]; exact hlt)⟩
    obtain ⟨b, off, ha, _, hat⟩ := (unhide HM).pos (by rw [unhide HSL]; omega)
    obtain ⟨e, hcell, hok⟩ := hat k _ ((unhide HMA) k z hit)
    have hsn := (unhide HSN) k z hit
    have hle1 := (unhide HLE) (k + 1)
    have hzl : z.2.length ≤ 1048576 := (unhide HZ) z (List.mem_of_getElem? hit)
    obtain ⟨ks, hks⟩ : ∃ ks, ks = lsum rcT (xs.take k) := ⟨_, rfl⟩
    rw [← hks] at hsn hcell hok ⊢
    have hksl : ks ≤ 4194304 := by omega
    obtain ⟨K1, eK1⟩ : ∃ K1 : Int, k0 + (ks : Int) = K1 := ⟨_, rfl⟩
    have HK1 := hide eK1
    have k3 : (0 : Int) ≤ K1 := by omega
    have k4 : K1 ≤ 33554432 := by omega
    rw [eK1] at hcell hok ⊢
    clear eK1
    have c0 := hcell 0 _ rfl
    have c1 := hcell 1 _ rfl
    simp only [show rcK.m = 2 from rfl, Nat.add_zero, mkRc] at c0 c1
    have hrow : BRow wr e.2.a e.2.n (marks (K1 + 1) z.2.length) := hok.2.row
    have hn1 : e.2.n = z.2.length := by have := hrow.1; rw [marks_length] at this; exact this.symm
    rw [hn1] at hrow c1
    have HC := hide (heldByteS_any z.2.length e.2.c e.2.a (K1 + 1) wr hrow (by omega) (by omega) (by omega))
    have HSN2 : Hid (lsum rcT (xs.take (k + 1)) = ks + (1 + z.2.length)) := hsn
    have k1 : (0 : Int) ≤ (k : Int) := by omega
    have k2 : (k : Int) < (len : Int) := by omega
    rw [unhide HSA] at ha
    subst ha
    generalize z.2.length = zl at c1 HC HSN2 hzl
    have k5 : decide (K1 + 1 + (zl : Int) < 0) = false := decide_eq_false (by omega)
    have k6 : (K1 != K1) = false := by simp
    clear hsn hle1 hit hks hat hcell hok hrow hn1
    go_wp2_with fail
    refine (unhide HC).mono ?_
    rintro e w2 ⟨rfl, rfl⟩
    go_wp2_with fail
    go_roundw
    case rel => exact ⟨k + 1, by omega, by go_num, by rw [unhide HSN2, ← unhide HK1]; congr 1; omega, by first | exact rfl | trivial⟩
    case measure => simp [intOf]; omega
  · obtain rfl : k = len := by omega
    have et : xs.take k = xs := List.take_of_length_le (by rw [← unhide HLEN]; exact Nat.le_refl _)
    rw [et]
    clear et
    go_wp2_with fail
    go_ret
    exact ⟨rfl, rfl⟩

set_option maxHeartbeats 4000000 in
theorem heldVt_any (s : Sl) (xs : List Vt) (k0 : Int) (w : World) (h : RowOk vtK w s (mkR mkVt vtT k0 xs)) (hl : xs.length ≤ 1048576) (hs : lsum vtT xs ≤ 4194304) (hz : ∀ r ∈ xs, r.1.length ≤ 1048576 ∧ r.2.1.length ≤ 1048576) (hk0 : 0 ≤ k0) (hk1 : k0 ≤ 16777216) :
    Calls Tryz.prog 85 #[.slice s.a s.n s.c, .int .i64 k0] w fun e w' => e = .returned (.int .i64 (k0 + (lsum vtT xs : Nat))) ∧ w' = w := by
 have hsn : s.n = xs.length := by rw [← mkR_length mkVt vtT xs k0]; exact h.len
 have HSN := hide (ls_snoc vtT xs)
 have HLE := hide (ls_le vtT xs)
 have HMA := hide (mkR_at mkVt vtT xs k0)
 have HZ := hide hz
 have HM := hide h
 obtain ⟨len, hlen⟩ : ∃ len, len = xs.length := ⟨_, rfl⟩
 have HLEN := hide hlen
 rw [hsn]
 rw [← hlen] at hl hsn ⊢
 clear h hlen hz
 have HSL := hide hsn
 clear hsn
 generalize hsc : s.c = sc
 have HSC := hide hsc
 clear hsc
 generalize hsa : s.a = sa
 have HSA := hide hsa
 clear hsa
 go_enter Tryz.func85, Tryz.ntmps85
 go_wp2_with fail
 go_loopw [1, 5] (fun q i wr => ∃ k : Nat, k ≤ len ∧ i = .int .i64 k ∧ q = .int .i64 (k0 + (lsum vtT (xs.take k) : Nat)) ∧ wr = w) (fun _ i _ => len - (intOf i).toNat)
 case atStart => exact ⟨0, Nat.zero_le _, rfl, by simp [lsum], rfl⟩
 case round =>
  obtain ⟨k, hk, rfl, rfl, rfl⟩ := hrel
  by_cases hlt : k < len
  · obtain ⟨z, hit⟩ : ∃ z, xs[k]? = some z := ⟨_, List.getElem?_eq_getElem (by rw [← unhide HLEN]; exact hlt)⟩
    obtain ⟨b, off, ha, _, hat⟩ := (unhide HM).pos (by rw [unhide HSL]; omega)
    obtain ⟨e, hcell, hok⟩ := hat k _ ((unhide HMA) k z hit)
    have hsn := (unhide HSN) k z hit
    have hle1 := (unhide HLE) (k + 1)
    obtain ⟨hz1, hz2⟩ := (unhide HZ) z (List.mem_of_getElem? hit)
    obtain ⟨ks, hks⟩ : ∃ ks, ks = lsum vtT (xs.take k) := ⟨_, rfl⟩
    rw [← hks] at hsn hcell hok ⊢
    have hksl : ks ≤ 4194304 := by omega
    obtain ⟨K1, eK1⟩ : ∃ K1 : Int, k0 + (ks : Int) = K1 := ⟨_, rfl⟩
    have HK1 := hide eK1
    have k3 : (0 : Int) ≤ K1 := by omega
    have k4 : K1 ≤ 33554432 := by omega
    rw [eK1] at hcell hok ⊢
    clear eK1
    have c0 := hcell 0 _ rfl
    have c1 := hcell 1 _ rfl
    have c2 := hcell 2 _ rfl
    simp only [show vtK.m = 3 from rfl, Nat.add_zero] at c0 c1 c2
    obtain ⟨z1, z2, zb⟩ := z
    obtain ⟨e1, e2, ⟨⟩⟩ := e
    simp only [mkVt] at hok c0 c1 c2 hz1 hz2
    have hr1 : BRow wr e1.a e1.n (marks K1 z1.length) := hok.1.row
    have hr2 : BRow wr e2.a e2.n (marks (K1 + (z1.length : Nat)) z2.length) := hok.2.1.row
    have hn1 : e1.n = z1.length := by have := hr1.1; rw [marks_length] at this; exact this.symm
    have hn2 : e2.n = z2.length := by have := hr2.1; rw [marks_length] at this; exact this.symm
    rw [hn1] at hr1 c0
    rw [hn2] at hr2 c1
    have HSN2 : Hid (lsum vtT (xs.take (k + 1)) = ks + (z1.length + z2.length + 1)) := hsn
    generalize z1.length = n1 at c0 c1 c2 hr1 hr2 HSN2 hz1
    generalize z2.length = n2 at c1 c2 hr2 HSN2 hz2
    have HC := hide (heldByteS_any n1 e1.c e1.a K1 wr hr1 (by omega) (by omega) (by omega))
    obtain ⟨K2, eK2⟩ : ∃ K2 : Int, K1 + (n1 : Int) = K2 := ⟨_, rfl⟩
    have HK2 := hide eK2
    have k5 : (0 : Int) ≤ K2 := by omega
    have k6 : K2 ≤ 67108864 := by omega
    rw [eK2] at hr2 c2 HC
    clear eK2
    have HD := hide (heldByteS_any n2 e2.c e2.a K2 wr hr2 (by omega) (by omega) (by omega))
    obtain ⟨K3, eK3⟩ : ∃ K3 : Int, K2 + (n2 : Int) = K3 := ⟨_, rfl⟩
    have HK3 := hide eK3
    have k7 : (0 : Int) ≤ K3 := by omega
    have k8 : K3 ≤ 134217728 := by omega
    rw [eK3] at c2 HD
    clear eK3
    have k9 : decide (K2 < 0) = false := decide_eq_false (by omega)
    have k10 : decide (K3 < 0) = false := decide_eq_false (by omega)
    obtain ⟨M, hM⟩ : ∃ M : Int, K3.tmod 3 = M := ⟨_, rfl⟩
    have hM2 : K3 % 3 = M := by rw [← hM, Int.tmod_eq_emod_of_nonneg k7]
    obtain ⟨bb, hbb⟩ : ∃ bb, (M == 0) = bb := ⟨_, rfl⟩
    have hdb : decide (K3 % 3 = 0) = bb := by rw [hM2, ← hbb, Bool.eq_iff_iff]; simp
    rw [hdb] at c2
    clear hM2 hdb
    have k11 : (bb != bb) = false := by simp
    have k1 : (0 : Int) ≤ (k : Int) := by omega
    have k2 : (k : Int) < (len : Int) := by omega
    rw [unhide HSA] at ha
    subst ha
    clear hsn hle1 hit hks hat hcell hok hr1 hr2 hn1 hn2
    go_wp2_with fail
    refine (unhide HC).mono ?_
    rintro r1 w2 ⟨rfl, rfl⟩
    go_wp2_with fail
    refine (unhide HD).mono ?_
    rintro r1 w3 ⟨rfl, rfl⟩
    go_wp2_with fail
    go_roundw
    case rel => exact ⟨k + 1, by omega, by go_num, by rw [unhide HSN2, ← unhide HK3, ← unhide HK2, ← unhide HK1]; congr 1; omega, by first | exact rfl | trivial⟩
    case measure => simp [intOf]; omega
  · obtain rfl : k = len := by omega
    have et : xs.take k = xs := List.take_of_length_le (by rw [← unhide HLEN]; exact Nat.le_refl _)
    rw [et]
    clear et
    go_wp2_with fail
    go_ret
    exact ⟨rfl, rfl⟩

set_option maxRecDepth 100000

/-- A snapshot whose parts are no greater than the laws let in. -/
structure SnT (x : Sn) : Prop where
 s : x.2.1.length ≤ 1048576
 sb : bsum x.2.1 ≤ 1048576
 r : x.2.2.1.length ≤ 1048576
 rb : lsum rcT x.2.2.1 ≤ 1048576
 v : x.2.2.2.length ≤ 1048576
 vb : lsum vtT x.2.2.2 ≤ 1048576

theorem ls_mem {α : Type} (t : α → Nat) (xs : List α) (x : α) (h : x ∈ xs) : t x ≤ lsum t xs := by
 obtain ⟨i, hi⟩ := List.getElem?_of_mem h
 have := ls_snoc t xs i x hi
 have := ls_le t xs (i + 1)
 omega

theorem SnT.rz {x : Sn} (h : SnT x) : ∀ r ∈ x.2.2.1, r.2.length ≤ 1048576 := fun r hr => by
 have h1 : 1 + r.2.length ≤ lsum rcT x.2.2.1 := ls_mem rcT _ r hr
 have := h.rb
 omega

theorem SnT.vz {x : Sn} (h : SnT x) : ∀ r ∈ x.2.2.2, r.1.length ≤ 1048576 ∧ r.2.1.length ≤ 1048576 := fun r hr => by
 have h1 : r.1.length + r.2.1.length + 1 ≤ lsum vtT x.2.2.2 := ls_mem vtT _ r hr
 have := h.vb
 omega

theorem SnT.sz {x : Sn} (h : SnT x) : ∀ z ∈ x.2.1, z.length ≤ 1048576 := fun z hz => by
 have h1 : z.length ≤ bsum x.2.1 := ls_mem List.length _ z hz
 have := h.sb
 omega

theorem SnT.sm {x : Sn} (h : SnT x) : SnSm x := by
 refine ⟨by have := h.s; omega, h.sz, by have := h.r; omega, fun y hy => h.rz y hy, by have := h.v; omega, fun y hy => ?_⟩
 have h1 : y.1.length + y.2.1.length + 1 ≤ lsum vtT x.2.2.2 := ls_mem vtT _ y hy
 have := h.vb
 show y.1.length + y.2.1.length ≤ _
 omega

/-- A snapshot marked from a number on, and how many numbers it takes. -/
def mkSn (k : Int) (x : Sn) : Sn := (x.1, mkss k x.2.1, mkR mkRc rcT (k + (bsum x.2.1 : Nat)) x.2.2.1, mkR mkVt vtT (k + (bsum x.2.1 : Nat) + (lsum rcT x.2.2.1 : Nat)) x.2.2.2)
def snTot (x : Sn) : Nat := bsum x.2.1 + lsum rcT x.2.2.1 + lsum vtT x.2.2.2

theorem SnT.tot {x : Sn} (h : SnT x) : snTot x ≤ 3145728 := by
 have := h.sb
 have := h.rb
 have := h.vb
 unfold snTot
 omega

set_option maxHeartbeats 4000000 in
theorem markSn_p (B : Nat) (d : Nat → Path) (p : Path) (e : SnS) (x : Sn) (k0 : Int) (w : World) (h : SNK.Own w B d p e x) (t : SnT x) (hB : B ≤ w.heap.size) (hk0 : 0 ≤ k0) (hk1 : k0 ≤ 8388608) (hd : ∀ g, w.heap.size ≤ g → ¬ p <+: d g) :
    Calls Tryz.prog 14 #[.agg (snvals e x), .int .i64 k0] w fun r w' => r = .returned (.int .i64 (k0 + (snTot x : Nat))) ∧ SNK.Own w' B d p e (mkSn k0 x) ∧ OnlyP B d p w w' := by
 have kb := SBlk.new w (snvals e x) 37
 have bb := below_alloc w (.cells (snvals e x) 37)
 obtain ⟨W0, eb⟩ : ∃ W0, w.alloc (.cells (snvals e x) 37) = W0 := ⟨_, rfl⟩
 rw [eb] at kb bb
 have h0 := SNK.ownBelow h bb (Nat.le_refl _)
 have on0 : OnlyP B d p w W0 := OnlyP.below bb (Nat.le_refl _) hB
 have hB0 : B ≤ W0.heap.size := Nat.le_trans hB bb.size
 have hdg : ¬ p <+: d w.heap.size := hd _ (Nat.le_refl _)
 obtain ⟨K1, eK1⟩ : ∃ K : Int, k0 + (bsum x.2.1 : Nat) = K := ⟨_, rfl⟩
 obtain ⟨K2, eK2⟩ : ∃ K : Int, K1 + (lsum rcT x.2.2.1 : Nat) = K := ⟨_, rfl⟩
 obtain ⟨K3, eK3⟩ : ∃ K : Int, K2 + (lsum vtT x.2.2.2 : Nat) = K := ⟨_, rfl⟩
 have hK3 : k0 + (snTot x : Nat) = K3 := by rw [← eK3, ← eK2, ← eK1]; unfold snTot; omega
 have hmk : mkSn k0 x = (x.1, mkss k0 x.2.1, mkR mkRc rcT K1 x.2.2.1, mkR mkVt vtT K2 x.2.2.2) := by unfold mkSn; rw [eK1, eK2]
 have tsb := t.sb
 have trb := t.rb
 have tvb := t.vb
 have D1 := hide (markSs_p B d (p ++ [1] ++ [0]) e.2.1 x.2.1 k0 W0 h0.2.1 hB0 (by have := t.s; omega) (by omega) hk0 (by omega))
 rw [eK1] at D1
 have D2 := hide (fun (W : World) (y : List (List Int)) (hW : SNK.Own W B d p e (x.1, y, x.2.2)) (hs : B ≤ W.heap.size) => markRc_p B d (p ++ [1] ++ [1] ++ [0]) e.2.2.1 x.2.2.1 K1 W hW.2.2.1 hs (by have := t.r; omega) (by omega) t.rz (by omega) (by omega))
 rw [eK2] at D2
 have D3 := hide (fun (W : World) (y : List (List Int)) (z : List Rc) (hW : SNK.Own W B d p e (x.1, y, z, x.2.2.2)) (hs : B ≤ W.heap.size) => markVt_p B d (p ++ [1] ++ [1] ++ [1]) e.2.2.2 x.2.2.2 K2 W hW.2.2.2 hs (by have := t.v; omega) (by omega) t.vz (by omega) (by omega))
 rw [eK3] at D3
 rw [hK3, hmk]
 have c0 := kb.cell 0
 have c1 := kb.cell 1
 have c2 := kb.cell 2
 have c3 := kb.cell 3
 simp only [snvals, Array.toList, List.getElem?_cons_zero, List.getElem?_cons_succ] at c0 c1 c2 c3
 have EB := hide eb
 have HK := hide kb
 have HO0 := hide (And.intro h0 (And.intro on0 hB0))
 clear eb kb bb h h0 on0 hB0 hd t tsb trb tvb hmk hK3 eK1 eK2 eK3
 unfold snvals at EB ⊢
 go_enter Tryz.func14, Tryz.ntmps14
 go_upto_region 1 with fail
 rw [unhide EB]
 clear EB
 go_wp2_with fail
 refine (unhide D1).mono ?_
 rintro r1 w2 ⟨rfl, n2, o2⟩
 have o2u : OnlyP B d p W0 w2 := o2.up.up
 have h2 : SNK.Own w2 B d p e (x.1, mkss k0 x.2.1, x.2.2) := pairR (unhide HO0).1 (pairL (unhide HO0).1.2 n2 o2) o2.up
 have k2 := o2u.sblk (unhide HK) hdg
 have hB2 := Nat.le_trans (unhide HO0).2.2 o2u.1.size
 have E2 := hide ((unhide D2) w2 _ h2 hB2)
 have c2 := k2.cell 2
 simp only [snvals, Array.toList, List.getElem?_cons_zero, List.getElem?_cons_succ] at c2
 have HK2 := hide k2
 have HH2 := hide (And.intro h2 (And.intro ((unhide HO0).2.1.trans o2u) hB2))
 clear n2 o2 o2u h2 k2 hB2 D1 D2 c0 c1 c3
 go_wp2_with fail
 refine (unhide E2).mono ?_
 rintro r1 w3 ⟨rfl, n3, o3⟩
 have o3u : OnlyP B d p w2 w3 := o3.up.up.up
 have h3 : SNK.Own w3 B d p e (x.1, mkss k0 x.2.1, mkR mkRc rcT K1 x.2.2.1, x.2.2.2) := pairR (x := (x.1, mkss k0 x.2.1, x.2.2)) (unhide HH2).1 (pairR (x := (mkss k0 x.2.1, x.2.2)) (unhide HH2).1.2 (pairL (x := x.2.2) (unhide HH2).1.2.2 n3 o3) o3.up) o3.up.up
 have k3 := o3u.sblk (unhide HK2) hdg
 have hB3 := Nat.le_trans (unhide HH2).2.2 o3u.1.size
 have E3 := hide ((unhide D3) w3 _ _ h3 hB3)
 have c3 := k3.cell 3
 simp only [snvals, Array.toList, List.getElem?_cons_zero, List.getElem?_cons_succ] at c3
 have HH3 := hide (And.intro h3 (And.intro ((unhide HH2).2.1.trans o3u) hB3))
 clear n3 o3 o3u h3 k3 hB3 E2 D3 c2
 go_wp2_with fail
 refine (unhide E3).mono ?_
 rintro r1 w4 ⟨rfl, n4, o4⟩
 have h4 : SNK.Own w4 B d p e (x.1, mkss k0 x.2.1, mkR mkRc rcT K1 x.2.2.1, mkR mkVt vtT K2 x.2.2.2) := pairR (x := (x.1, mkss k0 x.2.1, mkR mkRc rcT K1 x.2.2.1, x.2.2.2)) (unhide HH3).1 (pairR (x := (mkss k0 x.2.1, mkR mkRc rcT K1 x.2.2.1, x.2.2.2)) (unhide HH3).1.2 (pairR (x := (mkR mkRc rcT K1 x.2.2.1, x.2.2.2)) (unhide HH3).1.2.2 n4 o4) o4.up) o4.up.up
 have HH4 := hide (And.intro h4 ((unhide HH3).2.1.trans o4.up.up.up))
 clear n4 o4 h4 E3 c3
 go_wp2_with fail
 go_ret
 exact ⟨rfl, (unhide HH4).1, (unhide HH4).2⟩

set_option maxHeartbeats 4000000 in
theorem markSnR_p (q : Int) (B : Nat) (d : Nat → Path) (p : Path) (e : SnS) (x : Sn) (k0 : Int) (w : World) (h : SNK.Own w B d p e x) (t : SnT x) (hB : B ≤ w.heap.size) (hk0 : 0 ≤ k0) (hk1 : k0 ≤ 8388608) (hd : ∀ g, w.heap.size ≤ g → ¬ p <+: d g) :
    Calls Tryz.prog 16 #[.agg (srvals q e x), .int .i64 k0] w fun r w' => r = .returned (.int .i64 (k0 + (snTot x : Nat))) ∧ SNK.Own w' B d p e (mkSn k0 x) ∧ OnlyP B d p w w' := by
 have kb := SBlk.new w (srvals q e x) 39
 have bb := below_alloc w (.cells (srvals q e x) 39)
 obtain ⟨W0, eb⟩ : ∃ W0, w.alloc (.cells (srvals q e x) 39) = W0 := ⟨_, rfl⟩
 rw [eb] at kb bb
 have D1 := hide (markSn_p B d p e x k0 W0 (SNK.ownBelow h bb (Nat.le_refl _)) t (Nat.le_trans hB bb.size) hk0 hk1 (fun g hg => hd g (Nat.le_trans bb.size hg)))
 have on := hide (OnlyP.below (B := B) (d := d) (p := p) bb (Nat.le_refl _) hB)
 obtain ⟨⟨u0, u1, u2, u3, u4⟩, _⟩ := five_blk kb
 have EB := hide eb
 clear eb kb bb h hd t
 generalize mkSn k0 x = MX at D1 ⊢
 generalize snTot x = tot at D1 ⊢
 unfold srvals at EB ⊢
 unfold snvals at D1
 go_enter Tryz.func16, Tryz.ntmps16
 go_upto_region 1 with fail
 rw [unhide EB]
 clear EB
 go_wp2_with fail
 refine (unhide D1).mono ?_
 rintro e w2 ⟨rfl, c2, o2⟩
 have HO := hide ((unhide on).trans o2)
 have HC := hide c2
 clear o2 c2
 go_wp2_with fail
 go_ret
 exact ⟨rfl, unhide HC, unhide HO⟩

set_option maxHeartbeats 4000000 in
theorem heldSn_any (e : SnS) (x : Sn) (k0 : Int) (w : World) (h : SNK.Ok w e (mkSn k0 x)) (t : SnT x) (hk0 : 0 ≤ k0) (hk1 : k0 ≤ 8388608) :
    Calls Tryz.prog 47 #[.agg (snvals e x), .int .i64 k0] w fun r w' => r = .returned (.int .i64 (k0 + (snTot x : Nat))) ∧ Below w.heap.size w w' := by
 have kb := SBlk.new w (snvals e x) 37
 have bb := below_alloc w (.cells (snvals e x) 37)
 obtain ⟨W0, eb⟩ : ∃ W0, w.alloc (.cells (snvals e x) 37) = W0 := ⟨_, rfl⟩
 rw [eb] at kb bb
 have h0 := SNK.below h bb (Nat.le_refl _)
 obtain ⟨K1, eK1⟩ : ∃ K : Int, k0 + (bsum x.2.1 : Nat) = K := ⟨_, rfl⟩
 obtain ⟨K2, eK2⟩ : ∃ K : Int, K1 + (lsum rcT x.2.2.1 : Nat) = K := ⟨_, rfl⟩
 obtain ⟨K3, eK3⟩ : ∃ K : Int, K2 + (lsum vtT x.2.2.2 : Nat) = K := ⟨_, rfl⟩
 have hK3 : k0 + (snTot x : Nat) = K3 := by rw [← eK3, ← eK2, ← eK1]; unfold snTot; omega
 have hmk : mkSn k0 x = (x.1, mkss k0 x.2.1, mkR mkRc rcT K1 x.2.2.1, mkR mkVt vtT K2 x.2.2.2) := by unfold mkSn; rw [eK1, eK2]
 rw [hmk] at h0
 have tsb := t.sb
 have trb := t.rb
 have tvb := t.vb
 have D1 := hide (heldSS_any e.2.1.a e.2.1.n e.2.1.c x.2.1 k0 W0 (bs_of_row h0.2.1) (by have := t.s; omega) (by omega) hk0 (by omega))
 rw [eK1] at D1
 have D2 := hide (heldRc_any e.2.2.1 x.2.2.1 K1 W0 h0.2.2.1 (by have := t.r; omega) (by omega) t.rz (by omega) (by omega))
 rw [eK2] at D2
 have D3 := hide (heldVt_any e.2.2.2 x.2.2.2 K2 W0 h0.2.2.2 (by have := t.v; omega) (by omega) t.vz (by omega) (by omega))
 rw [eK3] at D3
 rw [hK3]
 have d1 : decide (K1 < 0) = false := decide_eq_false (by omega)
 have d2 : decide (K2 < 0) = false := decide_eq_false (by omega)
 have d3 : decide (K3 < 0) = false := decide_eq_false (by omega)
 have c0 := kb.cell 0
 have c1 := kb.cell 1
 have c2 := kb.cell 2
 have c3 := kb.cell 3
 simp only [snvals, Array.toList, List.getElem?_cons_zero, List.getElem?_cons_succ] at c0 c1 c2 c3
 have EB := hide eb
 have HBB := hide bb
 clear eb kb bb h h0 t tsb trb tvb hmk hK3 eK1 eK2 eK3
 unfold snvals at EB ⊢
 go_enter Tryz.func47, Tryz.ntmps47
 go_upto_region 1 with fail
 rw [unhide EB]
 clear EB
 go_wp2_with fail
 refine (unhide D1).mono ?_
 rintro r1 w2 ⟨rfl, rfl⟩
 go_wp2_with fail
 refine (unhide D2).mono ?_
 rintro r1 w3 ⟨rfl, rfl⟩
 go_wp2_with fail
 refine (unhide D3).mono ?_
 rintro r1 w4 ⟨rfl, rfl⟩
 go_wp2_with fail
 go_ret
 exact ⟨rfl, unhide HBB⟩

set_option maxHeartbeats 4000000 in
theorem heldSnR_any (q : Int) (e : SnS) (x : Sn) (k0 : Int) (w : World) (h : SNK.Ok w e (mkSn k0 x)) (t : SnT x) (hk0 : 0 ≤ k0) (hk1 : k0 ≤ 8388608) :
    Calls Tryz.prog 17 #[.agg (srvals q e x), .int .i64 k0] w fun r w' => r = .returned (.int .i64 (k0 + (snTot x : Nat))) ∧ Below w.heap.size w w' := by
 have kb := SBlk.new w (srvals q e x) 39
 have bb := below_alloc w (.cells (srvals q e x) 39)
 obtain ⟨W0, eb⟩ : ∃ W0, w.alloc (.cells (srvals q e x) 39) = W0 := ⟨_, rfl⟩
 rw [eb] at kb bb
 have D1 := hide (heldSn_any e x k0 W0 (SNK.below h bb (Nat.le_refl _)) t hk0 hk1)
 have HBB := hide bb
 obtain ⟨⟨u0, u1, u2, u3, u4⟩, _⟩ := five_blk kb
 have EB := hide eb
 clear eb kb bb h t
 generalize snTot x = tot at D1 ⊢
 obtain ⟨K, eK⟩ : ∃ K : Int, k0 + (tot : Nat) = K := ⟨_, rfl⟩
 have dK : decide (K < 0) = false := decide_eq_false (by omega)
 rw [eK] at D1 ⊢
 clear eK
 unfold srvals at EB ⊢
 unfold snvals at D1
 go_enter Tryz.func17, Tryz.ntmps17
 go_upto_region 1 with fail
 rw [unhide EB]
 clear EB
 go_wp2_with fail
 refine (unhide D1).mono ?_
 rintro e w2 ⟨rfl, b2⟩
 have HB2 := hide ((unhide HBB).trans (b2.mono (unhide HBB).size))
 clear b2
 go_wp2_with fail
 go_ret
 exact ⟨rfl, unhide HB2⟩

set_option maxHeartbeats 4000000 in
theorem eqSnR_same (c : Int) (e f : SnS) (x : Sn) (w : World) (o : SNK.Ok w e x) (q : SNK.Ok w f x) (m : SnSm x) :
    Calls Tryz.prog 11 #[.agg (srvals c e x), .agg (srvals c f x)] w fun r w' => r = .returned (.bool true) ∧ Below w.heap.size w w' := by
 have ka := SBlk.new w (srvals c e x) 39
 have ba := below_alloc w (.cells (srvals c e x) 39)
 have za : (w.alloc (.cells (srvals c e x) 39)).heap.size = w.heap.size + 1 := by simp
 obtain ⟨W0, ea⟩ : ∃ W0, w.alloc (.cells (srvals c e x) 39) = W0 := ⟨_, rfl⟩
 rw [ea] at ka ba za
 have kb := SBlk.new W0 (srvals c f x) 39
 have k1 := ka.next (.cells (srvals c f x) 39)
 have bb := ba.trans ((below_alloc W0 (.cells (srvals c f x) 39)).mono ba.size)
 obtain ⟨W1, eb⟩ : ∃ W1, W0.alloc (.cells (srvals c f x) 39) = W1 := ⟨_, rfl⟩
 rw [za] at kb
 rw [eb] at kb k1 bb
 have D1 := hide (eqSnap_any e f x x W1 (SNK.below o bb (Nat.le_refl _)) (SNK.below q bb (Nat.le_refl _)) m m)
 rw [snSame_self] at D1
 have HBB := hide bb
 have h1 : (c != c) = false := by simp
 obtain ⟨⟨u0, u1, u2, u3, u4⟩, _⟩ := five_blk k1
 obtain ⟨⟨v0, v1, v2, v3, v4⟩, _⟩ := five_blk kb
 have EA := hide ea
 have EB := hide eb
 clear ea eb ka kb k1 ba bb o q za m
 unfold srvals at EA EB ⊢
 unfold snvals at D1
 go_enter Tryz.func11, Tryz.ntmps11
 go_upto_region 1 with fail
 rw [unhide EA, unhide EB]
 clear EA EB
 go_wp2_with fail
 refine (unhide D1).mono ?_
 rintro e w2 ⟨rfl, b2⟩
 have HB2 := hide ((unhide HBB).trans (b2.mono (unhide HBB).size))
 clear b2
 go_wp2_with fail
 go_ret
 exact ⟨rfl, unhide HB2⟩

set_option maxRecDepth 100000

def Byt (z : List Int) : Prop := ∀ b ∈ z, 0 ≤ b ∧ b ≤ 255

theorem less_total : ∀ (a b : List UInt8), a ≠ b → Op.bytesLess a b = false → Op.bytesLess b a = true
 | [], [], h, _ => absurd rfl h
 | [], _ :: _, _, h => by simp [Op.bytesLess] at h
 | _ :: _, [], _, _ => by simp [Op.bytesLess]
 | x :: a, y :: b, h, h1 => by
  simp only [Op.bytesLess, Bool.or_eq_false_iff, decide_eq_false_iff_not, Bool.and_eq_false_iff, beq_eq_false_iff_ne, ne_eq] at h1
  simp only [Op.bytesLess, Bool.or_eq_true, decide_eq_true_eq, Bool.and_eq_true, beq_iff_eq]
  obtain ⟨h2, h3⟩ := h1
  by_cases e : x = y
  · subst e
    refine .inr ⟨rfl, less_total a b (fun e => h (by rw [e])) ?_⟩
    rcases h3 with h3 | h3
    · exact absurd rfl h3
    · exact h3
  · refine .inl ?_
    rcases Nat.lt_trichotomy y.toNat x.toNat with h4 | h4 | h4
    · exact UInt8.lt_iff_toNat_lt.2 h4
    · exact absurd (UInt8.toNat_inj.1 h4.symm) e
    · exact absurd (UInt8.lt_iff_toNat_lt.2 h4) h2

theorem ahead_total {a b : List Int} (ha : Byt a) (hb : Byt b) (h : a ≠ b) (h1 : aheadB a b = false) : aheadB b a = true := by
 rw [aheadB_def] at *
 exact less_total _ _ (fun e => h (bytesOf_inj a b ha hb e)) h1

theorem less_ok {x : Sn} (h : snFlt x = 0) (s t : List Int) : snFlt (lessSn x s t) = 0 := by
 obtain ⟨h1, h2, h3, h4, h5, h6, h7, h8⟩ := sn_iff.1 h
 refine sn_iff.2 ⟨h1, h2, h3, h4, Nat.le_trans (List.length_filter_le _ _) h5, h6, fun v hv => h7 v (List.mem_filter.1 hv).1, ?_⟩
 exact List.Nodup.sublist (List.Sublist.map _ List.filter_sublist) h8

theorem with_ok {x : Sn} (h : snFlt x = 0) {s t : List Int} {add : Bool} (hs : s.length = 4) (ht : t.length = 4) (hm : s ∈ x.2.1) (ha : add ≠ decide (t ∈ x.2.1)) (hl : ¬ 30 ≤ (lessSn x s t).2.2.2.length) : snFlt (withVt x s t add) = 0 := by
 obtain ⟨h1, h2, h3, h4, h5, h6, h7, h8⟩ := sn_iff.1 (less_ok h s t)
 refine sn_iff.2 ⟨h1, h2, h3, h4, ?_, h6, fun v hv => ?_, ?_⟩
 · show ((lessSn x s t).2.2.2 ++ [_]).length ≤ 30
   rw [List.length_append]
   simp only [List.length_cons, List.length_nil]
   omega
 · have hv' : v ∈ (lessSn x s t).2.2.2 ++ [(s, t, add)] := hv
   rcases List.mem_append.1 hv' with hv | hv
   · exact h7 v hv
   · simp at hv
     subst hv
     exact ⟨hs, ht, hm, ha⟩
 · show (vtKeys ((lessSn x s t).2.2.2 ++ [(s, t, add)])).Nodup
   unfold vtKeys
   rw [List.map_append, List.nodup_append]
   refine ⟨h8, by simp, fun a ha' b hb => ?_⟩
   rintro rfl
   simp only [List.map_cons, List.map_nil, List.mem_singleton] at hb
   subst hb
   obtain ⟨v, hv, he⟩ := List.mem_map.1 ha'
   have hk := (List.mem_filter.1 hv).2
   simp only [Prod.mk.injEq] at he
   unfold keepV at hk
   simp [he.1, he.2] at hk

theorem mem_put {zss : List (List Int)} {t z : List Int} : z ∈ putL zss t ↔ z = t ∨ z ∈ zss := by
 unfold putL
 have e : zss.take (plB zss t) ++ zss.drop (plB zss t) = zss := List.take_append_drop _ _
 constructor
 · intro h
   simp only [List.mem_append, List.mem_singleton] at h
   rcases h with (h | h) | h
   · exact .inr (List.mem_of_mem_take h)
   · exact .inl h
   · exact .inr (List.mem_of_mem_drop h)
 · rintro (h | h)
   · subst h; simp
   · rw [← e] at h
     simp only [List.mem_append, List.mem_singleton] at h ⊢
     rcases h with h | h
     · exact .inl (.inl h)
     · exact .inr h

theorem put_ok {zss : List (List Int)} {t : List Int} (hp : zss.Pairwise (fun a b => aheadB a b = true)) (hb : ∀ z ∈ zss, Byt z) (hbt : Byt t) (hn : t ∉ zss) : (putL zss t).Pairwise (fun a b => aheadB a b = true) := by
 have hr : ∀ (i j : Nat) (x y : List Int), i < j → zss[i]? = some x → zss[j]? = some y → aheadB x y = true := fun i j x y hij hx hy => by
  obtain ⟨hi, rfl⟩ := List.getElem?_eq_some_iff.1 hx
  obtain ⟨hj, rfl⟩ := List.getElem?_eq_some_iff.1 hy
  exact List.pairwise_iff_getElem.1 hp i j hi hj hij
 have lo : ∀ z ∈ zss.take (plB zss t), aheadB z t = true := fun z hz => by
  obtain ⟨i, hi⟩ := List.getElem?_of_mem hz
  have hil := (List.getElem?_eq_some_iff.1 hi).1
  rw [List.length_take] at hil
  rw [List.getElem?_take, if_pos (by omega)] at hi
  rw [plB_iff hr t i z hi]
  exact decide_eq_true (by omega)
 have hi' : ∀ z ∈ zss.drop (plB zss t), aheadB t z = true := fun z hz => by
  obtain ⟨i, hi⟩ := List.getElem?_of_mem hz
  rw [List.getElem?_drop] at hi
  have hm : z ∈ zss := List.mem_of_getElem? hi
  have h1 := plB_iff hr t _ z hi
  rw [decide_eq_false (by omega)] at h1
  exact ahead_total (hb z hm) hbt (fun e => hn (e ▸ hm)) h1
 have hp' := hp
 rw [← List.take_append_drop (plB zss t) zss] at hp'
 obtain ⟨p1, p2, p3⟩ := List.pairwise_append.1 hp'
 unfold putL
 rw [List.append_assoc]
 refine List.pairwise_append.2 ⟨p1, ?_, fun a ha b hb' => ?_⟩
 · rw [List.singleton_append]
   exact List.pairwise_cons.2 ⟨hi', p2⟩
 · rw [List.singleton_append] at hb'
   rcases List.mem_cons.1 hb' with e | e
   · subst e; exact lo a ha
   · exact p3 a ha b e

theorem wonIn_ok {x : Sn} (h : snFlt x = 0) {t : List Int} (ht : t.length = 4) (hb : ∀ z ∈ x.2.1, Byt z) (hbt : Byt t) (hn : t ∉ x.2.1) (hl : x.2.1.length < 7) : snFlt (wonIn x t) = 0 := by
 obtain ⟨h1, h2, ⟨h3a, h3b, h3c⟩, h4, h5, h6, h7, h8⟩ := sn_iff.1 h
 refine sn_iff.2 ⟨h1, ?_, ⟨?_, fun z hz => ?_, put_ok h3c hb hbt hn⟩, h4, Nat.le_trans (List.length_filter_le _ _) h5, h6, fun v hv => ?_, List.Nodup.sublist (List.Sublist.map _ List.filter_sublist) h8⟩
 · show 0 < (putL x.2.1 t).length
   rw [putL_length]; omega
 · show (putL x.2.1 t).length ≤ 7
   rw [putL_length]; omega
 · rcases mem_put.1 hz with e | e
   · rw [e]; exact ht
   · exact h3b z e
 · obtain ⟨hv1, hv2⟩ := List.mem_filter.1 hv
   obtain ⟨a1, a2, a3, a4⟩ := h7 v hv1
   have hne : v.2.1 ≠ t := fun e => by
    unfold keepV at hv2
    simp [e] at hv2
   refine ⟨a1, a2, mem_put.2 (.inr a3), ?_⟩
   show v.2.2 ≠ decide (v.2.1 ∈ putL x.2.1 t)
   rw [show decide (v.2.1 ∈ putL x.2.1 t) = decide (v.2.1 ∈ x.2.1) from decide_eq_decide.2 ⟨fun hm => (mem_put.1 hm).resolve_left hne, fun hm => mem_put.2 (.inr hm)⟩]
   exact a4

theorem mem_out {zss : List (List Int)} {K : Nat} {t z : List Int} (hK : zss[K]? = some t) (hz : z ≠ t) : z ∈ outL zss K ↔ z ∈ zss := by
 unfold outL
 have hk := (List.getElem?_eq_some_iff.1 hK).1
 have e : zss = zss.take K ++ t :: zss.drop (K + 1) := by
  have e1 : zss[K] = t := (List.getElem?_eq_some_iff.1 hK).2
  rw [← e1, ← List.drop_eq_getElem_cons hk, List.take_append_drop]
 constructor
 · intro h
   rcases List.mem_append.1 h with h | h
   · exact List.mem_of_mem_take h
   · exact List.mem_of_mem_drop h
 · intro h
   rw [e] at h
   rcases List.mem_append.1 h with h | h
   · exact List.mem_append.2 (.inl h)
   · rcases List.mem_cons.1 h with h | h
     · exact absurd h hz
     · exact List.mem_append.2 (.inr h)

theorem out_sub {α : Type} (xs : List α) (K : Nat) : (outL xs K).Sublist xs := by
 unfold outL
 have h := List.Sublist.append (List.Sublist.refl (xs.take K)) (List.drop_sublist_drop_left xs (Nat.le_succ K))
 rw [List.take_append_drop] at h
 exact h

theorem keepLast_sub {α : Type} (xs : List α) (h : Nat) : (keepLast xs h).Sublist xs := by
 unfold keepLast
 split
 · exact List.drop_sublist _ _
 · exact List.Sublist.refl _

theorem at_at {zss : List (List Int)} {t : List Int} (h : t ∈ zss) : zss[(atFrom t 0 zss).toNat]? = some t := by
 have key : ∀ (l : List (List Int)) (k : Nat), t ∈ l → ∃ K : Nat, atFrom t k l = ((k + K : Nat) : Int) ∧ l[K]? = some t := by
  intro l
  induction l with
  | nil => intro k h; cases h
  | cons y r ih =>
   intro k h
   unfold atFrom
   by_cases hy : y = t
   · exact ⟨0, by rw [if_pos hy]; simp, by simp [hy]⟩
   · rw [if_neg hy]
     obtain ⟨K, h1, h3⟩ := ih (k + 1) ((List.mem_cons.1 h).resolve_left (fun e => hy e.symm))
     exact ⟨K + 1, by rw [h1]; congr 1; omega, by simpa using h3⟩
 obtain ⟨K, h1, h2⟩ := key zss 0 h
 rw [h1, show ((0 + K : Nat) : Int).toNat = K by omega]
 exact h2

theorem wonOut_ok {x : Sn} (h : snFlt x = 0) {t : List Int} (ht : t.length = 4) (hm : t ∈ x.2.1) (hl : 1 < x.2.1.length) : snFlt (wonOut x t) = 0 := by
 obtain ⟨h1, h2, ⟨h3a, h3b, h3c⟩, h4, h5, ⟨h6a, h6b⟩, h7, h8⟩ := sn_iff.1 h
 have hK := at_at hm
 have hk := (List.getElem?_eq_some_iff.1 hK).1
 unfold wonOut
 generalize (atFrom t 0 x.2.1).toNat = K at hK hk ⊢
 have hs := out_sub x.2.1 K
 have hln : (outL x.2.1 K).length = x.2.1.length - 1 := by unfold outL; rw [List.length_append, List.length_take, List.length_drop]; omega
 have hr := keepLast_sub x.2.2.1 ((outL x.2.1 K).length / 2)
 have hvs : ((lessSn (lessSn x [] t) t []).2.2.2).Sublist x.2.2.2 := List.filter_sublist.trans List.filter_sublist
 refine sn_iff.2 ⟨h1, by show 0 < (outL x.2.1 K).length; omega, ⟨by show (outL x.2.1 K).length ≤ 7; omega, fun z hz => h3b z (hs.subset hz), h3c.sublist hs⟩, Nat.le_trans hr.length_le h4, Nat.le_trans hvs.length_le h5, ⟨fun r hr' => h6a r (hr.subset hr'), h6b.sublist hr⟩, fun v hv => ?_, List.Nodup.sublist (List.Sublist.map _ hvs) h8⟩
 obtain ⟨hv1, hv2⟩ := List.mem_filter.1 hv
 obtain ⟨hv3, hv4⟩ := List.mem_filter.1 hv1
 obtain ⟨a1, a2, a3, a4⟩ := h7 v hv3
 have ne1 : v.1 ≠ t := fun e => by
  unfold keepV at hv2
  simp [e] at hv2
 have ne2 : v.2.1 ≠ t := fun e => by
  unfold keepV at hv4
  simp [e] at hv4
 refine ⟨a1, a2, (mem_out hK ne1).2 a3, ?_⟩
 show v.2.2 ≠ decide (v.2.1 ∈ outL x.2.1 K)
 rw [show decide (v.2.1 ∈ outL x.2.1 K) = decide (v.2.1 ∈ x.2.1) from decide_eq_decide.2 (mem_out hK ne2)]
 exact a4

/-- Whatever is voted a snapshot has no fault. -/
theorem ct_ok {x : Sn} (h : snFlt x = 0) {s t : List Int} {add : Bool} (hs : s.length = 4) (ht : t.length = 4) (hm : s ∈ x.2.1) (hb : ∀ z ∈ x.2.1, Byt z) (hbt : Byt t) : snFlt (ctSn x s t add) = 0 := by
 unfold ctSn
 by_cases h1 : add = decide (t ∈ x.2.1)
 · rw [if_pos h1]
   exact less_ok h s t
 · rw [if_neg h1]
   by_cases h2 : 30 ≤ (lessSn x s t).2.2.2.length
   · rw [if_pos h2]
     exact h
   · rw [if_neg h2]
     have hw := with_ok h hs ht hm h1 h2
     by_cases h3 : 2 * tlOf t (vtKeys (withVt x s t add).2.2.2) ≤ x.2.1.length
     · rw [if_pos h3]
       exact hw
     · rw [if_neg h3]
       unfold wonSn
       cases add with
       | true =>
        rw [if_pos rfl]
        by_cases h7 : 7 ≤ (withVt x s t true).2.1.length
        · rw [if_pos h7]
          exact hw
        · rw [if_neg h7]
          have hn : t ∉ x.2.1 := fun hm' => h1 (by rw [decide_eq_true hm'])
          exact wonIn_ok hw ht hb hbt hn (by omega)
       | false =>
        rw [if_neg (by decide)]
        by_cases h7 : (withVt x s t false).2.1.length = 1
        · rw [if_pos h7]
          exact hw
        · rw [if_neg h7]
          have hm' : t ∈ x.2.1 := by
           rcases Decidable.em (t ∈ x.2.1) with h' | h'
           · exact h'
           · exact absurd (by rw [decide_eq_false h']) h1
          have hl : 0 < x.2.1.length := (sn_iff.1 h).2.1
          exact wonOut_ok hw ht hm' (by have e : (withVt x s t false).2.1.length = x.2.1.length := rfl; omega)

end Go.Proofs.YtdmcmlcmgbbclaaGreat
