/- What is proved here: what the model's l16Snap and SnapText answer. -/
import Derived.Test.YtpkfgffgldjceaaDoorJ10
import Derived.Test.YtpkfgffgldjceaaDoorJ9
import Derived.Deep.RegionHeld3
import Derived.Test.YtpkfgffgldjceaaDoorChecked
import Derived.Test.YtpkfgffgldjceaaDoorJ1
import Derived.WalkKit
import Derived.WalkLawsBesides
import Derived.WalkSmall
import Derived.BigRegion
import Derived.Deep.AppendLies
import Derived.WalkSpells
import Derived.KernelRfl
import Derived.Shelf.Strings.Builder1
import Derived.Shelf.Strings.Builder2
import Derived.Shelf.Strings.OnBuilder
import Derived.Shelf.Strings.BuilderF
import Derived.Shelf.Strings.BuilderK
import Derived.Shelf.Strconv.Itoa0
import Derived.Shelf.Strconv.Itoa1
import Derived.Shelf.LaysM
import Derived.Shelf.Strconv.Itoa2
import Derived.Shelf.Strconv.Itoa3
import Derived.Shelf.Strconv.Itoa4
import Derived.Shelf.Strings.Search1
import Derived.Shelf.Strings.Search2
import Derived.Shelf.Strings.Search3
import Derived.Shelf.Strings.Shaped
import Derived.Shelf.Unicode.DecodeSlow
import Derived.Test.YtpkfgffgldjceaaDoorProg
namespace Go.Proofs.YtpkfgffgldjceaaDoor
open Go.RowKit
set_option linter.unusedVariables false
set_option linter.unusedSimpArgs false
set_option maxRecDepth 100000

theorem pre_map {α β : Type} (f : α → β) (xs : List α) (k : Nat) : (xs.take k).map f <+: xs.map f := ⟨(xs.drop k).map f, by rw [← List.map_append, List.take_append_drop]⟩
theorem pre_flat {α β : Type} (f : α → List β) (xs : List α) (k : Nat) : (xs.take k).flatMap f <+: xs.flatMap f := ⟨(xs.drop k).flatMap f, by rw [← List.flatMap_append, List.take_append_drop]⟩
theorem pre_in {α : Type} (a : List α) {b c : List α} (h : b <+: c) : a ++ b <+: a ++ c := (List.prefix_append_right_inj a).2 h

theorem pre5 (x : Sn) : snW5 x <+: snW x := List.prefix_append _ _
theorem pre4 (x : Sn) : snW4 x <+: snW x := (List.prefix_append (snW4 x) _).trans (pre5 x)
theorem pre3 (x : Sn) : snW3 x <+: snW x := (List.prefix_append (snW3 x) _).trans (pre4 x)
theorem pre2 (x : Sn) : snW2 x <+: snW x := (List.prefix_append (snW2 x) _).trans (pre3 x)
theorem pre1 (x : Sn) : snW1 x <+: snW x := (List.prefix_append (snW1 x) _).trans (pre2 x)

theorem st_blk {w : World} {g : Nat} {x y z u : Value} {t : TypeId} (k : SBlk w g [x, y, z, u] t) : w.cell? ⟨g, 0, none⟩ = some x ∧ w.cell? ⟨g, 1, none⟩ = some y ∧ w.cell? ⟨g, 2, none⟩ = some z ∧ w.cell? ⟨g, 3, none⟩ = some u := ⟨k.cell 0, k.cell 1, k.cell 2, k.cell 3⟩

/-- What was told so far is short. -/
theorem jn_small {x : Sn} (h : snFlt x = 0) {ws : List ByteArray} (hp : ws <+: snW x) : (jn ws).size ≤ 100000000000000 := by
  obtain ⟨h1, h2⟩ := snW_ok h
  have h3 := join_len ws 1099511627777 (fun w hw => h2 w (hp.subset hw))
  have h4 := hp.length_le
  have h5 : (jn ws).size = (Lib.join (ws.map (·.data.toList)) spW.data.toList).length := by rw [← jn_join]; exact List.size_toArray
  have h6 : ws.length * (1099511627777 + 1) ≤ 90 * (1099511627777 + 1) := Nat.mul_le_mul_right _ (by omega)
  omega

theorem digits_at (n : Int) (h0 : 0 ≤ n) (h1 : n ≤ 1099511627776) (W : World) : Calls Tryd.prog 45 #[.int .i64 n] W fun r w' => r = .returned (.string (dgW n)) ∧ Below W.heap.size W w' := by
  have h := l1DigitsW_any n.toNat (by omega) W
  have e : ((n.toNat : Nat) : Int) = n := by omega
  rw [e] at h
  exact h

theorem hex_at (s : Sl) (z : List Int) (W : World) (h : BOk W s z) (hz : z.length ≤ 1048576) : Calls Tryd.prog 46 #[.slice s.a s.n s.c] W fun r w' => r = .returned (.string (hxW z)) ∧ ∃ n, w' = W.drewN n :=
  l1Hex_any s.a s.n s.c z W h.row (by have := h.row.1; omega)

theorem hexb_at (s : Sl) (z : List Int) (W : World) (h : BOk W s z) (hz : z.length ≤ 1048576) : Calls Tryd.prog 46 #[.slice s.a s.n s.c] W fun r w' => r = .returned (.string (hxW z)) ∧ Below W.heap.size W w' :=
  (hex_at s z W h hz).mono fun r w' ⟨e, n, q⟩ => ⟨e, by rw [q]; exact below_drewN (Below.refl _ _) n⟩

set_option maxHeartbeats 8000000 in
theorem l16Snap_any (g : Nat) (e : SnS) (x : Sn) (T : TypeId) (w : World) (sb : SBlk w g (snvals e x).toList T) (o : SNK.Ok w e x) (h0 : snFlt x = 0) :
    Calls Tryd.prog 20 #[.pointer (some ⟨g, 0, none⟩)] w fun r w' => r = .returned (.string (jn (snW x))) ∧ Below w.heap.size w w' := by
  have hq := sn_iff.1 h0
  have hn : 0 ≤ x.1 ∧ x.1 ≤ 1099511627776 := by have q1 := hq.1; unfold within at q1; simpa using q1
  have HD := hide (digits_at x.1 hn.1 hn.2 w)
  have HK := hide (fun (W : World) (hb : Below w.heap.size w W) => st_blk (sb.below hb sb.lt))
  have HO := hide (fun (W : World) (hb : Below w.heap.size w W) => SNK.below o hb (Nat.le_refl _))
  have H0 := hide h0
  have HQ := hide hq
  obtain ⟨x0, x1, x2, x3⟩ := st_blk sb
  have hsd := dgW_size x.1 hn.1 hn.2
  have HW1 : Hid (jn (snW1 x) = wSnap ++ spW ++ dgW x.1 ++ spW ++ wOf) := rfl
  obtain ⟨xn, zss, rs, vs⟩ := x
  obtain ⟨⟨⟩, sg, sr, sv⟩ := e
  simp only at x0 x1 x2 x3 HK HO HD hsd HW1
  generalize dgW xn = D at HD hsd HW1
  clear sb o h0 hq hn
  go_enter Tryd.func20, Tryd.ntmps20
  go_wp2_with fail
  refine (unhide HD).mono ?_
  rintro r w1 ⟨rfl, b1⟩
  go_wp2_with fail
  have B1 := hide b1
  have HL1 : Hid (wSnap ++ spW = (⟨#[115, 110, 97, 112, 32]⟩ : ByteArray)) := rfl
  have HL2 : Hid (spW ++ wOf = (⟨#[32, 111, 102]⟩ : ByteArray)) := rfl
  have HT1 : Hid ((⟨#[115, 110, 97, 112, 32]⟩ : ByteArray) ++ D ++ (⟨#[32, 111, 102]⟩ : ByteArray) = jn (snW1 (xn, zss, rs, vs))) := by
    show _ = _
    rw [unhide HW1, ← unhide HL1, ← unhide HL2]
    simp only [ByteArray.append_assoc]
  rw [unhide HT1]
  clear HT1 HL1 HL2 HW1 hsd HD x0 x1 x2 x3 b1
  go_loopw [3, 4] (fun o i wr => ∃ (k : Nat), k ≤ sg.n ∧ i = .int .i64 k ∧ o = .string (jn (snW1 (xn, zss, rs, vs) ++ (zss.take k).map hxW)) ∧ Below w.heap.size w wr) (fun _ i _ => sg.n - (intOf i).toNat)
  case atStart => exact ⟨0, Nat.zero_le _, rfl, by simp, unhide B1⟩
  case round =>
    obtain ⟨k, hk, rfl, rfl, hw⟩ := hrel
    have hlen : sg.n = zss.length := ((unhide HO) wr hw).2.1.len
    obtain ⟨y0, y1, y2, y3⟩ := (unhide HK) wr hw
    have hs7 : zss.length ≤ 7 := (unhide HQ).2.2.1.1
    have hsz := jn_small (unhide H0) ((pre_in (snW1 (xn, zss, rs, vs)) (pre_map hxW zss k)).trans (pre2 (xn, zss, rs, vs)))
    by_cases hlt : k < sg.n
    · obtain ⟨b, off, ea, hb, hc⟩ := ((unhide HO) wr hw).2.1.pos (by show 0 < sg.n; omega)
      simp only at ea hc
      obtain ⟨z, hz⟩ : ∃ v, zss[k]? = some v := ⟨_, List.getElem?_eq_getElem (by rw [← hlen]; exact hlt)⟩
      obtain ⟨s, c, oz⟩ := hc k z hz
      have c0 := c 0 _ rfl
      simp only [Nat.add_zero, show bytesK.m = 1 from rfl, Nat.mul_one] at c0
      have hz4 := (unhide HQ).2.2.1.2.1 z (List.mem_of_getElem? hz)
      have HX := hide (hex_at s z wr oz (by omega))
      have HN : Hid (jn (snW1 (xn, zss, rs, vs) ++ (zss.take (k + 1)).map hxW) = jn (snW1 (xn, zss, rs, vs) ++ (zss.take k).map hxW) ++ spW ++ hxW z) := by
        show _ = _
        rw [List.take_add_one, hz, List.map_append, ← List.append_assoc]
        exact jn_snoc _ (by simp [snW1]) _
      have hxz := hxW_size z
      generalize jn (snW1 (xn, zss, rs, vs) ++ (zss.take k).map hxW) = O at hsz HN
      generalize hxW z = X at HX HN hxz
      obtain ⟨sga, sgn, sgc⟩ := sg
      simp only at ea hlt hk y1 hlen
      subst ea
      have HW := hide hw
      have i1 : (0 : Int) ≤ (k : Int) := by omega
      have i2 : (k : Int) < (sgn : Int) := by omega
      have hs8 : sgn ≤ 7 := by omega
      clear hw hc c hz hlen hs7 oz y0 y2 y3
      go_wp2_with fail
      refine (unhide HX).mono ?_
      rintro r w2 ⟨rfl, n2, rfl⟩
      have HB2 := hide (below_drewN (unhide HW) n2)
      go_wp2_with fail
      go_roundw
      case rel => exact ⟨k + 1, by omega, by go_num, by rw [unhide HN]; rfl, unhide HB2⟩
      case measure => simp [intOf]; omega
    · obtain rfl : k = sg.n := by omega
      have hkn : ¬ ((sg.n : Int) < (sg.n : Int)) := by omega
      have HE : Hid (jn (snW1 (xn, zss, rs, vs) ++ (zss.take sg.n).map hxW) = jn (snW2 (xn, zss, rs, vs))) := by
        show _ = _
        rw [List.take_of_length_le (by omega)]
        rfl
      rw [unhide HE] at hsz ⊢
      have HN : Hid (jn (snW2 (xn, zss, rs, vs)) ++ (⟨#[32, 114, 101, 99, 101, 110, 116, 115]⟩ : ByteArray) = jn (snW3 (xn, zss, rs, vs))) := by
        show _ = _
        rw [show snW3 (xn, zss, rs, vs) = snW2 (xn, zss, rs, vs) ++ [wRec] from rfl, jn_snoc _ (by simp [snW2, snW1]), ByteArray.append_assoc]
        rfl
      generalize jn (snW2 (xn, zss, rs, vs)) = O2 at HN hsz ⊢
      have HB := hide hw
      clear HE B1 hw hlen hs7 hlt y0 y2 y3
      go_wp2_with fail
      rw [unhide HN]
      clear HN hsz y1 hkn
      go_loopw [3, 5] (fun o i wr => ∃ (k : Nat), k ≤ sr.n ∧ i = .int .i64 k ∧ o = .string (jn (snW3 (xn, zss, rs, vs) ++ (rs.take k).flatMap rcW)) ∧ Below w.heap.size w wr) (fun _ i _ => sr.n - (intOf i).toNat)
      case atStart => exact ⟨0, Nat.zero_le _, rfl, by simp, unhide HB⟩
      case round =>
        obtain ⟨k, hk, rfl, rfl, hw⟩ := hrel
        have hlen : sr.n = rs.length := ((unhide HO) _ hw).2.2.1.len
        obtain ⟨y0, y1, y2, y3⟩ := (unhide HK) _ hw
        have hs7 : rs.length ≤ 7 := (unhide HQ).2.2.2.1
        have hsz := jn_small (unhide H0) ((pre_in (snW3 (xn, zss, rs, vs)) (pre_flat rcW rs k)).trans (pre4 (xn, zss, rs, vs)))
        by_cases hlt : k < sr.n
        · obtain ⟨b, off, ea, hb, hc⟩ := ((unhide HO) _ hw).2.2.1.pos (by show 0 < sr.n; omega)
          simp only at ea hc
          obtain ⟨y, hz⟩ : ∃ v, rs[k]? = some v := ⟨_, List.getElem?_eq_getElem (by rw [← hlen]; exact hlt)⟩
          obtain ⟨⟨⟨⟩, s⟩, c, oz⟩ := hc k y hz
          have c0 := c 0 _ rfl
          have c1 := c 1 _ rfl
          simp only [Nat.add_zero, show rcK.m = 2 from rfl] at c0 c1
          have hz4 := (unhide HQ).2.2.2.2.2.1.1 y (List.mem_of_getElem? hz)
          have hx0 : 0 ≤ xn ∧ xn ≤ 1099511627776 := by have q1 := (unhide HQ).1; unfold within at q1; simpa using q1
          obtain ⟨q, z⟩ := y
          simp only at hz4
          have HDG := hide (fun (W : World) => digits_at q hz4.2.1 (by omega) W)
          have HX := hide (fun (W : World) (hb : Below wr.heap.size wr W) => hexb_at s z W (bytesK.below oz.2 hb (Nat.le_refl _)) (by omega))
          have HNX : Hid (jn (snW3 (xn, zss, rs, vs) ++ (rs.take (k + 1)).flatMap rcW) = jn (snW3 (xn, zss, rs, vs) ++ (rs.take k).flatMap rcW) ++ spW ++ dgW q ++ spW ++ hxW z) := by
            show _ = _
            rw [List.take_add_one, hz, List.flatMap_append, ← List.append_assoc]
            show jn (snW3 (xn, zss, rs, vs) ++ (rs.take k).flatMap rcW ++ [dgW q, hxW z]) = _
            rw [show (snW3 (xn, zss, rs, vs) ++ (rs.take k).flatMap rcW ++ [dgW q, hxW z]) = (snW3 (xn, zss, rs, vs) ++ (rs.take k).flatMap rcW ++ [dgW q]) ++ [hxW z] by simp, jn_snoc _ (by simp [snW3]), jn_snoc _ (by simp [snW3])]
          have hxz := hxW_size z
          have hdz := dgW_size q hz4.2.1 (by omega)
          have hx4 := hz4.1
          generalize jn (snW3 (xn, zss, rs, vs) ++ (rs.take k).flatMap rcW) = O at hsz HNX
          generalize hxW z = X at HX HNX hxz
          generalize dgW q = DQ at HDG HNX hdz
          obtain ⟨sra, srn, src⟩ := sr
          simp only at ea hlt hk y2 hlen HK
          subst ea
          have HW := hide hw
          have i1 : (0 : Int) ≤ (k : Int) := by omega
          have i2 : (k : Int) < (srn : Int) := by omega
          have hs8 : srn ≤ 7 := by omega
          rw [hx4] at hxz
          have k1 : ¬ (9223372036854775807 < O.size + 1) := by omega
          have k2 : ¬ (9223372036854775807 < O.size + 1 + DQ.size) := by omega
          have k3 : ¬ (9223372036854775807 < O.size + 1 + DQ.size + 1) := by omega
          have k4 : ¬ (9223372036854775807 < O.size + 1 + DQ.size + 1 + X.size) := by omega
          have HCS : Hid (∀ W, Below wr.heap.size wr W → W.cell? ⟨g, 2, none⟩ = some (.slice (some ⟨b, off, none⟩) srn src) ∧ W.cell? ⟨b, off + k * 2, none⟩ = some (.int .i64 q) ∧ W.cell? ⟨b, off + k * 2 + 1, none⟩ = some (.slice s.a s.n s.c)) := fun W hb => ⟨(hb.cell (lt_of_cell y2)).trans y2, (hb.cell (lt_of_cell c0)).trans c0, (hb.cell (lt_of_cell c1)).trans c1⟩
          clear hw hc c hz hlen hs7 oz y0 y1 y3 hz4 hx0 hx4 hxz hdz hsz
          go_wp2_with fail
          go_region_held3 (fun W => W.cell? ⟨g, 2, none⟩ = some (.slice (some ⟨b, off, none⟩) srn src) ∧ W.cell? ⟨b, off + k * 2, none⟩ = some (.int .i64 q) ∧ W.cell? ⟨b, off + k * 2 + 1, none⟩ = some (.slice s.a s.n s.c))
            (exact (unhide HCS) _ (by first | (with_reducible assumption) | exact (Below.refl wr.heap.size wr).drew | exact below_drewN (Below.refl wr.heap.size wr) _ | exact Below.refl _ _ | exact below_drewN (by assumption) _))
            (first
              | (go_at_call 45; refine ((unhide HDG) _).mono ?_; rintro r u1 ⟨rfl, b4⟩; have J4 : Below wr.heap.size wr u1 := Below.trans (by first | exact (Below.refl wr.heap.size wr).drew | exact below_drewN (Below.refl wr.heap.size wr) _ | exact Below.refl _ _) (b4.mono (by first | exact Nat.le_refl _ | exact (below_drewN (Below.refl wr.heap.size wr) _).size)); clear b4)
              | (go_at_call 46; refine ((unhide HX) _ J4).mono ?_; rintro r u2 ⟨rfl, b5⟩; have J5 := J4.trans (b5.mono J4.size); clear b5))
          have BB := hide ((unhide HW).trans (J5.mono (unhide HW).size))
          have HE : Hid (O ++ (⟨#[32]⟩ : ByteArray) ++ DQ ++ (⟨#[32]⟩ : ByteArray) ++ X = jn (snW3 (xn, zss, rs, vs) ++ (rs.take (k + 1)).flatMap rcW)) := (unhide HNX).symm
          rw [unhide HE]
          clear J4 J5 HE HNX HDG HX HCS
          go_wp2_with fail
          go_roundw
          case rel => exact ⟨k + 1, by omega, by go_num, rfl, unhide BB⟩
          case measure => simp [intOf]; omega
        · obtain rfl : k = sr.n := by omega
          have hkn : ¬ ((sr.n : Int) < (sr.n : Int)) := by omega
          have HE : Hid (jn (snW3 (xn, zss, rs, vs) ++ (rs.take sr.n).flatMap rcW) = jn (snW4 (xn, zss, rs, vs))) := by
            show _ = _
            rw [List.take_of_length_le (by omega)]
            rfl
          rw [unhide HE] at hsz ⊢
          have HN : Hid (jn (snW4 (xn, zss, rs, vs)) ++ (⟨#[32, 118, 111, 116, 101, 115]⟩ : ByteArray) = jn (snW5 (xn, zss, rs, vs))) := by
            show _ = _
            rw [show snW5 (xn, zss, rs, vs) = snW4 (xn, zss, rs, vs) ++ [wVot] from rfl, jn_snoc _ (by simp [snW4, snW3]), ByteArray.append_assoc]
            rfl
          generalize jn (snW4 (xn, zss, rs, vs)) = O4 at HN hsz ⊢
          replace HB := hide hw
          clear HE hw hlen hs7 hlt y0 y1 y3
          go_wp2_with fail
          rw [unhide HN]
          clear HN hsz y2 hkn
          go_loopw [3, 6] (fun o i wr => ∃ (k : Nat), k ≤ sv.n ∧ i = .int .i64 k ∧ o = .string (jn (snW5 (xn, zss, rs, vs) ++ (vs.take k).flatMap vtW)) ∧ Below w.heap.size w wr) (fun _ i _ => sv.n - (intOf i).toNat)
          case atStart => exact ⟨0, Nat.zero_le _, rfl, by simp, unhide HB⟩
          case round =>
            obtain ⟨k, hk, rfl, rfl, hw⟩ := hrel
            have hlen : sv.n = vs.length := ((unhide HO) _ hw).2.2.2.len
            obtain ⟨y0, y1, y2, y3⟩ := (unhide HK) _ hw
            have hs7 : vs.length ≤ 30 := (unhide HQ).2.2.2.2.1
            have hsz := jn_small (unhide H0) ((pre_in (snW5 (xn, zss, rs, vs)) (pre_flat vtW vs k)).trans (List.prefix_rfl))
            by_cases hlt : k < sv.n
            · obtain ⟨b, off, ea, hb, hc⟩ := ((unhide HO) _ hw).2.2.2.pos (by show 0 < sv.n; omega)
              simp only at ea hc
              obtain ⟨y, hz⟩ : ∃ v, vs[k]? = some v := ⟨_, List.getElem?_eq_getElem (by rw [← hlen]; exact hlt)⟩
              obtain ⟨⟨s, t, ⟨⟩⟩, c, oz⟩ := hc k y hz
              have c0 := c 0 _ rfl
              have c1 := c 1 _ rfl
              have c2 := c 2 _ rfl
              simp only [Nat.add_zero, show vtK.m = 3 from rfl] at c0 c1 c2
              have hz4 := (unhide HQ).2.2.2.2.2.2.1 y (List.mem_of_getElem? hz)
              obtain ⟨z, u, add⟩ := y
              have hzl : z.length = 4 := hz4.1
              have hul : u.length = 4 := hz4.2.1
              have HX := hide (fun (W : World) (hb : Below wr.heap.size wr W) => hexb_at s z W (bytesK.below oz.1 hb (Nat.le_refl _)) (by omega))
              have HY := hide (fun (W : World) (hb : Below wr.heap.size wr W) => hexb_at t u W (bytesK.below oz.2.1 hb (Nat.le_refl _)) (by omega))
              have HNX : Hid (jn (snW5 (xn, zss, rs, vs) ++ (vs.take (k + 1)).flatMap vtW) = jn (snW5 (xn, zss, rs, vs) ++ (vs.take k).flatMap vtW) ++ spW ++ hxW z ++ (spW ++ sgW add) ++ hxW u) := by
                show _ = _
                rw [List.take_add_one, hz, List.flatMap_append, ← List.append_assoc]
                show jn (snW5 (xn, zss, rs, vs) ++ (vs.take k).flatMap vtW ++ [hxW z, sgW add ++ hxW u]) = _
                rw [show (snW5 (xn, zss, rs, vs) ++ (vs.take k).flatMap vtW ++ [hxW z, sgW add ++ hxW u]) = (snW5 (xn, zss, rs, vs) ++ (vs.take k).flatMap vtW ++ [hxW z]) ++ [sgW add ++ hxW u] by simp, jn_snoc _ (by simp [snW5]), jn_snoc _ (by simp [snW5])]
                simp only [ByteArray.append_assoc]
              have hxz := hxW_size z
              have hxu := hxW_size u
              generalize jn (snW5 (xn, zss, rs, vs) ++ (vs.take k).flatMap vtW) = O at hsz HNX
              generalize hxW z = X at HX HNX hxz
              generalize hxW u = Y at HY HNX hxu
              obtain ⟨sva, svn, svc⟩ := sv
              simp only at ea hlt hk y3 hlen HK
              subst ea
              have HW := hide hw
              have i1 : (0 : Int) ≤ (k : Int) := by omega
              have i2 : (k : Int) < (svn : Int) := by omega
              have hs8 : svn ≤ 30 := by omega
              rw [hzl] at hxz
              rw [hul] at hxu
              have k1 : ¬ (9223372036854775807 < O.size + 1) := by omega
              have k2 : ¬ (9223372036854775807 < O.size + 1 + X.size) := by omega
              have k3 : ¬ (9223372036854775807 < O.size + 1 + X.size + 2) := by omega
              have k4 : ¬ (9223372036854775807 < O.size + 1 + X.size + 2 + Y.size) := by omega
              have HCS : Hid (∀ W, Below wr.heap.size wr W → W.cell? ⟨g, 3, none⟩ = some (.slice (some ⟨b, off, none⟩) svn svc) ∧ W.cell? ⟨b, off + k * 3, none⟩ = some (.slice s.a s.n s.c) ∧ W.cell? ⟨b, off + k * 3 + 1, none⟩ = some (.slice t.a t.n t.c)) := fun W hb => ⟨(hb.cell (lt_of_cell y3)).trans y3, (hb.cell (lt_of_cell c0)).trans c0, (hb.cell (lt_of_cell c1)).trans c1⟩
              clear hw hc c hz hlen hs7 oz y0 y1 y2 hz4 hzl hul hxz hxu hsz
              cases add
              all_goals
                go_wp2_with fail
                go_region_held3 (fun W => W.cell? ⟨g, 3, none⟩ = some (.slice (some ⟨b, off, none⟩) svn svc) ∧ W.cell? ⟨b, off + k * 3, none⟩ = some (.slice s.a s.n s.c) ∧ W.cell? ⟨b, off + k * 3 + 1, none⟩ = some (.slice t.a t.n t.c))
                  (exact (unhide HCS) _ (by first | (with_reducible assumption) | exact (Below.refl wr.heap.size wr).drew | exact below_drewN (Below.refl wr.heap.size wr) _ | exact Below.refl _ _ | exact below_drewN (by assumption) _))
                  (first
                    | (go_at_call_of 46 t.c; refine ((unhide HY) _ J4).mono ?_; rintro r u2 ⟨rfl, b5⟩; have J5 := J4.trans (b5.mono J4.size); clear b5)
                    | (go_at_call_of 46 s.c; refine ((unhide HX) _ (by first | exact (Below.refl wr.heap.size wr).drew | exact below_drewN (Below.refl wr.heap.size wr) _ | exact Below.refl _ _)).mono ?_; rintro r u1 ⟨rfl, b4⟩; have J4 : Below wr.heap.size wr u1 := Below.trans (by first | exact (Below.refl wr.heap.size wr).drew | exact below_drewN (Below.refl wr.heap.size wr) _ | exact Below.refl _ _) (b4.mono (by first | exact Nat.le_refl _ | exact (below_drewN (Below.refl wr.heap.size wr) _).size)); clear b4))
                have BB := hide ((unhide HW).trans (J5.mono (unhide HW).size))
                have HE := hide (unhide HNX).symm
                clear J4 J5 HX HY HCS
                go_wp2_with fail
                go_roundw
                case rel => exact ⟨k + 1, by omega, by go_num, by first | (rw [unhide HNX]; rfl) | skip, unhide BB⟩
                case measure => simp [intOf]; omega
            · obtain rfl : k = sv.n := by omega
              have hkn : ¬ ((sv.n : Int) < (sv.n : Int)) := by omega
              have HE : Hid (jn (snW5 (xn, zss, rs, vs) ++ (vs.take sv.n).flatMap vtW) = jn (snW (xn, zss, rs, vs))) := by
                show _ = _
                rw [List.take_of_length_le (by omega)]
                rfl
              rw [unhide HE]
              have HB := hide hw
              clear HE hw hlen hs7 hlt y0 y1 y2
              go_wp2_with fail
              go_ret
              exact ⟨rfl, unhide HB⟩

end Go.Proofs.YtpkfgffgldjceaaDoor

/- What is proved here: what the model's SnapText answers. -/
namespace Go.Proofs.YtpkfgffgldjceaaDoor
open Go.RowKit
set_option linter.unusedVariables false
set_option linter.unusedSimpArgs false
set_option maxRecDepth 100000

/-- The entry of a function over a snapshot that answers a text: its two blocks. -/
theorem st_entry (e : SnS) (x : Sn) (w : World) : ∃ W0, (w.alloc (.cells (snvals e x) 34)).alloc (.cells #[.int .i64 0, .string ⟨#[]⟩] 29) = W0 ∧ Below w.heap.size w W0 ∧ W0.heap.size = w.heap.size + 2 ∧ SBlk W0 w.heap.size (snvals e x).toList 34 ∧ SBlk W0 (w.heap.size + 1) [.int .i64 0, .string ⟨#[]⟩] 29 := by
  refine ⟨_, rfl, ((Below.refl _ _).alloc (Nat.le_refl _) _).alloc (by simp) _, by simp, ?_, ?_⟩
  · exact (SBlk.new w (snvals e x) 34).next _
  · have k := SBlk.new (w.alloc (.cells (snvals e x) 34)) #[.int .i64 0, .string ⟨#[]⟩] 29
    simpa using k

theorem two_bk {w : World} {g : Nat} {x y : Value} {t : TypeId} (k : SBlk w g [x, y] t) : (w.cell? ⟨g, 0, none⟩ = some x ∧ w.cell? ⟨g, 1, none⟩ = some y) ∧ w.frozen? ⟨g, 0, none⟩ = false ∧ w.frozen? ⟨g, 1, none⟩ = false := ⟨⟨k.cell 0, k.cell 1⟩, k.free 0, k.free 1⟩

set_option maxHeartbeats 4000000 in
theorem specSnapText_any (e : SnS) (x : Sn) (w : World) (o : SNK.Ok w e x) (m : SnSm x) :
    Calls Tryd.prog 6 #[.agg (snvals e x)] w fun r w' => r = .returned (.agg #[.int .i64 (snFlt x), .string (stTxt x)]) ∧ Below w.heap.size w w' := by
  obtain ⟨W0, e0, b0, hz, kx, kr⟩ := st_entry e x w
  have HF := hide (l7Fault_any w.heap.size e x 34 W0 kx (SNK.below o b0 (Nat.le_refl _)) m)
  have HS := hide (fun (h0 : snFlt x = 0) (W : World) (hb : Below W0.heap.size W0 W) => l16Snap_any w.heap.size e x 34 W (kx.below hb kx.lt) (SNK.below o (b0.trans (hb.mono b0.size)) (Nat.le_refl _)) h0)
  have HT1 : Hid (snFlt x ≠ 0 → stTxt x = ⟨#[]⟩) := fun h => if_neg h
  have HT0 : Hid (snFlt x = 0 → stTxt x = jn (snW x)) := fun h => if_pos h
  have HKR := hide (fun (W : World) (hb : Below W0.heap.size W0 W) => two_bk (kr.below hb kr.lt))
  have HBB := hide b0
  have EA := hide e0
  have hzz : w.heap.size ≤ w.heap.size + 1 := by omega
  clear o m kx kr e0 b0 hz
  generalize stTxt x = T at HT1 HT0 ⊢
  generalize snFlt x = f at HF HS HT1 HT0 ⊢
  generalize jn (snW x) = J at HS HT0
  unfold snvals at EA ⊢
  go_enter Tryd.func6, Tryd.ntmps6
  go_upto_region 1 with fail
  rw [unhide EA]
  clear EA
  go_wp2_with fail
  refine (unhide HF).mono ?_
  rintro r w2 ⟨rfl, n, rfl⟩
  have J2 := hide (below_drewN (Below.refl W0.heap.size W0) n)
  generalize W0.drewN n = w2 at J2 ⊢
  by_cases h0 : f = 0
  case neg =>
    have h1 : (f != 0) = true := by simp [h0]
    have HR : Hid (T = ⟨#[]⟩) := (unhide HT1) h0
    obtain ⟨⟨r0, r1⟩, f0, f1⟩ := (unhide HKR) w2 (unhide J2)
    clear h0
    go_wp2_with fail
    exact bodyPost_ret (v := .agg #[.int .i64 f, .string ⟨#[]⟩]) (by simp [results, Tryd.results6, go_sem, r0, r1]) rfl ⟨by rw [unhide HR], ((((unhide HBB).trans ((unhide J2).mono (unhide HBB).size)).setCell (p := ⟨w.heap.size + 1, 0, none⟩) hzz _).setCell (p := ⟨w.heap.size + 1, 1, none⟩) hzz _)⟩
  subst h0
  have h1 : ((0 : Int) != 0) = false := rfl
  have HR : Hid (T = J) := (unhide HT0) rfl
  have DS := hide ((unhide HS) rfl w2 (unhide J2))
  clear HT1 HT0 HS
  go_wp2_with fail
  refine (unhide DS).mono ?_
  rintro r w3 ⟨rfl, b3⟩
  have J3 := hide ((unhide J2).trans (b3.mono (unhide J2).size))
  obtain ⟨⟨r0, r1⟩, f0, f1⟩ := (unhide HKR) w3 (unhide J3)
  clear b3
  go_wp2_with fail
  exact bodyPost_ret (v := .agg #[.int .i64 0, .string J]) (by simp [results, Tryd.results6, go_sem, r0, r1]) rfl ⟨by rw [unhide HR], ((((unhide HBB).trans ((unhide J3).mono (unhide HBB).size)).setCell (p := ⟨w.heap.size + 1, 0, none⟩) hzz _).setCell (p := ⟨w.heap.size + 1, 1, none⟩) hzz _)⟩

end Go.Proofs.YtpkfgffgldjceaaDoor

/- What is proved here: what impl.HexOf answers for slices of at most 2^20 bytes: the code and the text. -/
namespace Go.Proofs.YtpkfgffgldjceaaDoor
open Go.RowKit
set_option linter.unusedVariables false
set_option maxRecDepth 100000

theorem idx_dig (n : Nat) (hn : n < 16) (W : World) : (Instr.index 9 (.string { data := #[48, 49, 50, 51, 52, 53, 54, 55, 56, 57, 97, 98, 99, 100, 101, 102] }) (.int .u8 (n : Int))).run Tryd.prog W = .ok (.int .u8 (hd (n : Int))) W := by
  rcases (by omega : n = 0 ∨ n = 1 ∨ n = 2 ∨ n = 3 ∨ n = 4 ∨ n = 5 ∨ n = 6 ∨ n = 7 ∨ n = 8 ∨ n = 9 ∨ n = 10 ∨ n = 11 ∨ n = 12 ∨ n = 13 ∨ n = 14 ∨ n = 15) with r | r | r | r | r | r | r | r | r | r | r | r | r | r | r | r <;> subst r <;> kernel_rfl

theorem idx_int (v : Int) (h0 : 0 ≤ v) (h1 : v < 16) (W : World) : (Instr.index 9 (.string { data := #[48, 49, 50, 51, 52, 53, 54, 55, 56, 57, 97, 98, 99, 100, 101, 102] }) (.int .u8 v)).run Tryd.prog W = .ok (.int .u8 (hd v)) W := by
  obtain ⟨n, rfl⟩ := Int.eq_ofNat_of_zero_le h0
  exact idx_dig n (by omega) W

theorem news2 (w : World) (x y : Value) (t : TypeId) : ∀ (j : Nat) (u : Value), [x, y][j]? = some u → (w.alloc (.cells #[x, y] t)).cell? ((⟨w.heap.size, 0, none⟩ : Addr).add j) = some u := by
  intro j u hj
  rw [add_none, Nat.zero_add, World.cell?_alloc_new]
  match j, hj with
  | 0, hj => simpa using hj
  | 1, hj => simpa using hj

set_option maxHeartbeats 1000000 in
theorem implHexOf_pos (b off len cap : Nat) (xs : List Int) (w : World) (h : BRow w (some ⟨b, off, none⟩) len xs) (hl : len ≤ 1200) (hp : 0 < len) :
    Calls Tryd.prog 55 #[.slice (some ⟨b, off, none⟩) len cap] w fun e w' => e = .returned (.agg #[.int .i64 0, .string (strOfNums (hexEnc xs))]) ∧ Below w.heap.size w w' := by
  obtain ⟨i0, hi, hz0, hz1, hz2⟩ := info_parts info5
  have hxl := h.1
  have HX := hide h
  clear h
  go_enter Tryd.func55, Tryd.ntmps55
  go_wp2_with (at_make; refine wpList_make_own _ rfl _ _ 57 rfl (w.heap.size + 1) 5 i0 (.int .u8 0) 1 Tryd.underlying57 hi hz0 hz1 _ _ _ (2 * len) rfl rfl (by omega) ?c1 ?c2 ?c3 ?_)
  case c1 => rw [hz2]; omega
  case c2 => unfold maxLen; omega
  case c3 => simp
  intro w1 hown hgrow
  have hbel : Below w.heap.size w w1 := ((Below.refl _ _).alloc (Nat.le_refl _) _).grown hgrow (by simp) (fun k e => by cases e)
  have hres : w1.heap[w.heap.size]? = some (.cells #[.int .i64 0, .string (strOfNums [])] 29 (0, 0)) := by
    rw [hgrow.block _ (by simp) (by simp)]
    show (w.heap.push _)[w.heap.size]? = _
    simp [strOfNums]
  have HO := hide hown
  have HB := hide hbel
  have HR := hide hres
  clear hown hgrow hbel hres
  go_wp2_with fail
  go_loopw [3, 16] (fun v i wr => ∃ (k : Nat) (da : Option Addr) (dc : Nat), k ≤ len ∧ i = .int .i64 k ∧ v = .slice da (2 * k) dc ∧ wr.ownsRow (w.heap.size + 1) 5 1 (.slice da (2 * k) dc) (2 * k) ((hexEnc (xs.take k)).map (Value.int .u8)) ∧
      Below w.heap.size w wr ∧ wr.heap[w.heap.size]? = some (.cells #[.int .i64 0, .string (strOfNums [])] 29 (0, 0))) (fun _ i _ => len - (intOf i).toNat)
  case atStart => exact ⟨0, _, _, Nat.zero_le _, rfl, rfl, by simpa [hexEnc] using unhide HO, unhide HB, unhide HR⟩
  case round =>
    obtain ⟨k, da, dc, hk, rfl, rfl, hown, hbel, hres⟩ := hrel
    by_cases hlt : k < len
    · have hcx : wr.cell? ⟨b, off + k, none⟩ = some (.int .u8 (xs.getD k 0)) := by
        have := ((unhide HX).below hbel (Nat.le_refl _)).2.2.2 _ rfl k hlt
        rwa [add_none] at this
      have hxk := (unhide HX).2.1 (xs.getD k 0) (by rw [getD_at _ _ (by omega)]; exact List.getElem_mem _)
      have HS := hide (hexEnc_snoc xs k (by omega))
      generalize xs.getD k 0 = x at hcx hxk HS
      go_wp2_with fail
      clear hcx
      have e2 := u8_and15 (x := x) hxk.1 (by omega)
      have j1 := idx_int (x / 16) (by omega) (by omega)
      have j2 := idx_int (x % 16) (by omega) (by omega)
      have hsz : w.heap.size < wr.heap.size := lt_of_block hres
      have HE1 := hide hbel
      have HE2 := hide hres
      clear hbel hres
      go_region_held3 (fun w' => True) (trivial) ((refine step_append_lies _ (by rfl) (.tmp 20) (.tmp 27) 57 (by rfl) (w.heap.size + 1) 5 i0 (.int .u8 0) 1 1 Tryd.underlying57 hi hz0 hz1 hz2 rfl (by decide) _ _ _ (by rfl) (by first | exact hown.alloc _ | exact (hown.alloc _).drew) ⟨wr.heap.size, 0, none⟩ 2 2 [.int .u8 (hd (x / 16)), .int .u8 (hd (x % 16))] (by rfl) rfl (by exact news2 _ _ _ _) (by simp [Value.oneCell']) (by omega) (by unfold maxLen; omega) (by omega) (by simp; omega) _ rfl ?_; intro g cap2 w2 hown2 hgrow2 hat2 hlt2))
      all_goals
        have hrow : ∀ q, (Value.slice da (2 * k) dc).ownBlock = some q → w.heap.size < q := fun q e => by have := (hown.lt q e).1; omega
        have hb2 : Below w.heap.size w w2 := (((unhide HE1).alloc (by omega) _).drew).grown hgrow2 (by simp; omega) (fun q e => by have := hrow q e; omega)
        have hr2 : w2.heap[w.heap.size]? = some (.cells #[.int .i64 0, .string (strOfNums [])] 29 (0, 0)) := by
          rw [hgrow2.block _ (by simp; omega) (fun e => by have := hrow _ e.symm; omega)]
          exact (Below.heap_alloc wr _ _ hsz).trans (unhide HE2)
        have ho2 : w2.ownsRow (w.heap.size + 1) 5 1 (.slice (some ⟨g, 0, none⟩) (2 * (k + 1)) cap2) (2 * (k + 1)) ((hexEnc (xs.take (k + 1))).map (Value.int .u8)) := by
          rw [unhide HS, List.map_append, show 2 * (k + 1) = 2 * k + 2 from by omega]
          exact hown2
        have HB2 := hide hb2
        have HR2 := hide hr2
        have HO2 := hide ho2
        clear hb2 hr2 ho2 hown2 hgrow2 hown hrow
        go_wp2_with fail
        go_roundw
        case rel => exact ⟨k + 1, some ⟨g, 0, none⟩, cap2, by omega, by go_num, rfl, unhide HO2, unhide HB2, unhide HR2⟩
        case measure => simp [intOf]; omega
    · obtain rfl : k = len := by omega
      rw [List.take_of_length_le (by omega)] at hown
      have hcv := conv_any (P := Tryd.prog) wr 57 5 9 Tryd.underlying57 Tryd.underlying5 Tryd.underlying9 da (2 * k) dc (hexEnc xs) (BRow.own2 hown (hexEnc_range xs (unhide HX).2.1))
      obtain ⟨q0, q1, f0, f1⟩ := res_facts hres
      have HBE := hide hbel
      clear hown hres hbel
      generalize hT : strOfNums (hexEnc xs) = T at hcv
      have HT := hide hT
      clear hT
      go_wp2_with fail
      exact bodyPost_ret (v := .agg #[.int .i64 0, .string T]) (by simp [results, Tryd.results55, go_sem, q0, q1]) rfl ⟨by rw [unhide HT], ((unhide HBE).setCell (by simp) _).setCell (by simp) _⟩

set_option maxHeartbeats 1000000 in
theorem implHexOf_zero (a : Option Addr) (cap : Nat) (w : World) :
    Calls Tryd.prog 55 #[.slice a 0 cap] w fun e w' => e = .returned (.agg #[.int .i64 0, .string (strOfNums [])]) ∧ Below w.heap.size w w' := by
  obtain ⟨i0, hi, hz0, hz1, hz2⟩ := info_parts info5
  go_enter Tryd.func55, Tryd.ntmps55
  go_wp2_with (at_make; refine wpList_make_own _ rfl _ _ 57 rfl (w.heap.size + 1) 5 i0 (.int .u8 0) 1 Tryd.underlying57 hi hz0 hz1 _ _ _ 0 rfl rfl rfl ?c1 ?c2 ?c3 ?_)
  case c1 => omega
  case c2 => unfold maxLen; omega
  case c3 => simp
  intro w1 hown hgrow
  have hbel : Below w.heap.size w w1 := ((Below.refl _ _).alloc (Nat.le_refl _) _).grown hgrow (by simp) (fun k e => by cases e)
  have hres : w1.heap[w.heap.size]? = some (.cells #[.int .i64 0, .string (strOfNums [])] 29 (0, 0)) := by
    rw [hgrow.block _ (by simp) (by simp)]
    show (w.heap.push _)[w.heap.size]? = _
    simp [strOfNums]
  obtain ⟨q0, q1, f0, f1⟩ := res_facts hres
  have hcv := conv_any (P := Tryd.prog) w1 57 5 9 Tryd.underlying57 Tryd.underlying5 Tryd.underlying9 (some ⟨w.heap.size + 1, 0, none⟩) 0 0 [] ⟨rfl, fun x hx => by simp at hx, fun _ => rfl, fun x hx i hi => by omega⟩
  have HB := hide hbel
  clear hown hgrow hbel hres
  generalize hT : strOfNums [] = T at hcv q1
  have HT := hide hT
  clear hT
  go_wp2_with fail
  refine wp_loop_rounds 1 ?_
  rw [rounds_succ]
  go_wp2_with fail
  exact bodyPost_ret (v := .agg #[.int .i64 0, .string T]) (by simp [results, Tryd.results55, go_sem, q0, q1]) rfl ⟨by rw [unhide HT], ((unhide HB).setCell (by simp) _).setCell (by simp) _⟩

set_option maxHeartbeats 1000000 in
theorem implHexOf_any (a : Option Addr) (len cap : Nat) (xs : List Int) (w : World) (h : BRow w a len xs) (hl : len ≤ 1048576) :
    Calls Tryd.prog 55 #[.slice a len cap] w fun e w' => e = .returned (.agg #[.int .i64 (hoCode xs), .string (hoText xs)]) ∧ Below w.heap.size w w' := by
  have hxl := h.1
  by_cases hm : 1200 < len
  · have e1 : hoCode xs = 2 := if_pos (by omega)
    have e2 : hoText xs = strOfNums [] := if_pos (by omega)
    rw [e1, e2]
    clear h e1 e2
    go_enter Tryd.func55, Tryd.ntmps55
    go_wp2_with fail
    exact bodyPost_ret (v := .agg #[.int .i64 2, .string (strOfNums [])]) (by simp [results, Tryd.results55, go_sem, strOfNums]) rfl ⟨rfl, (Below.refl _ _).alloc (Nat.le_refl _) _⟩
  · have e1 : hoCode xs = 0 := if_neg (by omega)
    have e2 : hoText xs = strOfNums (hexEnc xs) := if_neg (by omega)
    rw [e1, e2]
    rcases Nat.eq_zero_or_pos len with h0 | hp
    · subst h0
      have hx : xs = [] := List.length_eq_zero_iff.1 hxl
      subst hx
      exact implHexOf_zero a cap w
    · obtain ⟨b, off, rfl, _, _⟩ := h.at hp
      exact implHexOf_pos b off len cap xs w h (by omega) hp

end Go.Proofs.YtpkfgffgldjceaaDoor

/- What is proved here: the bodies of some functions of Go's library in this program are those that the library of proofs knows. -/
namespace Go.Proofs
open Go.Shelf
def Tryd.lays156_ren : Go.Shelf.Ren := ⟨fun | 156 => 56 | 165 => 76 | 166 => 77 | 169 => 78 | 240 => 92 | 241 => 93 | 276 => 104 | 277 => 105 | n => n, fun | 31 => 39 | 9 => 9 | 3 => 3 | 4 => 4 | 0 => 0 | 20 => 20 | 72 => 110 | 76 => 114 | 70 => 108 | 37 => 57 | 75 => 113 | 127 => 120 | 164 => 148 | 5 => 5 | 80 => 116 | n => n, fun | n => n⟩
theorem Tryd.lays156 : Go.Proofs.Lays.n156 Tryd.prog Tryd.lays156_ren := {
  mixed := by kernel_rfl
  f156 := Tryd.func56.trans (congrArg some (by kernel_rfl))
  f165 := Tryd.func76.trans (congrArg some (by kernel_rfl))
  f166 := Tryd.func77.trans (congrArg some (by kernel_rfl))
  f169 := Tryd.func78.trans (congrArg some (by kernel_rfl))
  f240 := Tryd.func92.trans (congrArg some (by kernel_rfl))
  f241 := Tryd.func93.trans (congrArg some (by kernel_rfl))
  f276 := Tryd.func104.trans (congrArg some (by kernel_rfl))
  f277 := Tryd.func105.trans (congrArg some (by kernel_rfl))
  t0 := Tryd.underlying0
  a0 := Tryd.isAgg0
  z0 := Tryd.sizeOf0
  v0 := Tryd.zeroValue0
  t3 := Tryd.underlying3
  a3 := Tryd.isAgg3
  z3 := Tryd.sizeOf3
  v3 := Tryd.zeroValue3
  t4 := Tryd.underlying4
  a4 := Tryd.isAgg4
  z4 := Tryd.sizeOf4
  v4 := Tryd.zeroValue4
  t9 := Tryd.underlying9
  a9 := Tryd.isAgg9
  z9 := Tryd.sizeOf9
  v9 := Tryd.zeroValue9
  t20 := Tryd.underlying20
  a20 := Tryd.isAgg20
  z20 := Tryd.sizeOf20
  v20 := Tryd.zeroValue20
  t31 := Tryd.underlying39
  a31 := Tryd.isAgg39
  z31 := Tryd.sizeOf39
  v31 := Tryd.zeroValue39
  t37 := Tryd.underlying57
  a37 := Tryd.isAgg57
  z37 := Tryd.sizeOf57
  v37 := Tryd.zeroValue57
  t70 := Tryd.underlying108
  a70 := Tryd.isAgg108
  z70 := Tryd.sizeOf108
  v70 := Tryd.zeroValue108
  t72 := Tryd.underlying110
  a72 := Tryd.isAgg110
  z72 := Tryd.sizeOf110
  v72 := Tryd.zeroValue110
  t75 := Tryd.underlying113
  a75 := Tryd.isAgg113
  z75 := Tryd.sizeOf113
  v75 := Tryd.zeroValue113
  t76 := Tryd.underlying114
  a76 := Tryd.isAgg114
  z76 := Tryd.sizeOf114
  v76 := Tryd.zeroValue114
  t127 := Tryd.underlying120
  a127 := Tryd.isAgg120
  z127 := Tryd.sizeOf120
  v127 := Tryd.zeroValue120
  t164 := Tryd.underlying148
  a164 := Tryd.isAgg148
  z164 := Tryd.sizeOf148
  v164 := Tryd.zeroValue148 }
theorem Tryd.Builder_Extra_156 : Builder.Extra Tryd.prog Tryd.lays156_ren := {
  sizeBuilder := by kernel_rfl
  liesBuilder := by kernel_rfl
  t5 := Tryd.underlying5
  a5 := Tryd.isAgg5
  z5 := Tryd.sizeOf5
  v5 := Tryd.zeroValue5
  infoByte := by kernel_rfl
  cellsByte := by kernel_rfl
  sizeByte := by kernel_rfl
  neB5 := by decide }
def Tryd.laysM173_ren : Go.Shelf.Ren := ⟨fun | 173 => 54 | 246 => 75 | 283 => 88 | 284 => 89 | 285 => 90 | 286 => 91 | 129 => 100 | 317 => 99 | 318 => 101 | 319 => 102 | 320 => 103 | 337 => 112 | 338 => 113 | n => n, fun | 2 => 2 | 3 => 3 | 9 => 9 | 4 => 4 | 171 => 130 | 0 => 0 | 53 => 131 | 37 => 57 | 5 => 5 | 173 => 134 | 212 => 143 | 51 => 144 | 20 => 20 | 213 => 145 | 46 => 107 | 232 => 160 | 233 => 161 | n => n, fun | 17 => 0 | 18 => 4 | 19 => 5 | n => n⟩
theorem Tryd.laysM173 : Go.Proofs.LaysM.n173 Tryd.prog Tryd.laysM173_ren := {
  mixed := by kernel_rfl
  f129 := Tryd.func100.trans (congrArg some (by kernel_rfl))
  f173 := Tryd.func54.trans (congrArg some (by kernel_rfl))
  f246 := Tryd.func75.trans (congrArg some (by kernel_rfl))
  f283 := Tryd.func88.trans (congrArg some (by kernel_rfl))
  f284 := Tryd.func89.trans (congrArg some (by kernel_rfl))
  f285 := Tryd.func90.trans (congrArg some (by kernel_rfl))
  f286 := Tryd.func91.trans (congrArg some (by kernel_rfl))
  f317 := Tryd.func99.trans (congrArg some (by kernel_rfl))
  f318 := Tryd.func101.trans (congrArg some (by kernel_rfl))
  f319 := Tryd.func102.trans (congrArg some (by kernel_rfl))
  f320 := Tryd.func103.trans (congrArg some (by kernel_rfl))
  f337 := Tryd.func112.trans (congrArg some (by kernel_rfl))
  f338 := Tryd.func113.trans (congrArg some (by kernel_rfl))
  t0 := Tryd.underlying0
  a0 := Tryd.isAgg0
  z0 := Tryd.sizeOf0
  v0 := Tryd.zeroValue0
  t2 := Tryd.underlying2
  a2 := Tryd.isAgg2
  z2 := Tryd.sizeOf2
  v2 := Tryd.zeroValue2
  t3 := Tryd.underlying3
  a3 := Tryd.isAgg3
  z3 := Tryd.sizeOf3
  v3 := Tryd.zeroValue3
  t4 := Tryd.underlying4
  a4 := Tryd.isAgg4
  z4 := Tryd.sizeOf4
  v4 := Tryd.zeroValue4
  t5 := Tryd.underlying5
  a5 := Tryd.isAgg5
  z5 := Tryd.sizeOf5
  v5 := Tryd.zeroValue5
  t9 := Tryd.underlying9
  a9 := Tryd.isAgg9
  z9 := Tryd.sizeOf9
  v9 := Tryd.zeroValue9
  t20 := Tryd.underlying20
  a20 := Tryd.isAgg20
  z20 := Tryd.sizeOf20
  v20 := Tryd.zeroValue20
  t37 := Tryd.underlying57
  a37 := Tryd.isAgg57
  z37 := Tryd.sizeOf57
  v37 := Tryd.zeroValue57
  t46 := Tryd.underlying107
  a46 := Tryd.isAgg107
  z46 := Tryd.sizeOf107
  v46 := Tryd.zeroValue107
  t51 := Tryd.underlying144
  a51 := Tryd.isAgg144
  z51 := Tryd.sizeOf144
  v51 := Tryd.zeroValue144
  t53 := Tryd.underlying131
  a53 := Tryd.isAgg131
  z53 := Tryd.sizeOf131
  v53 := Tryd.zeroValue131
  t171 := Tryd.underlying130
  a171 := Tryd.isAgg130
  z171 := Tryd.sizeOf130
  v171 := Tryd.zeroValue130
  t173 := Tryd.underlying134
  a173 := Tryd.isAgg134
  z173 := Tryd.sizeOf134
  v173 := Tryd.zeroValue134
  t212 := Tryd.underlying143
  a212 := Tryd.isAgg143
  z212 := Tryd.sizeOf143
  v212 := Tryd.zeroValue143
  t213 := Tryd.underlying145
  a213 := Tryd.isAgg145
  z213 := Tryd.sizeOf145
  t232 := Tryd.underlying160
  a232 := Tryd.isAgg160
  z232 := Tryd.sizeOf160
  v232 := Tryd.zeroValue160
  t233 := Tryd.underlying161
  a233 := Tryd.isAgg161
  z233 := Tryd.sizeOf161
  v233 := Tryd.zeroValue161
  g17 := by kernel_rfl
  g18 := by kernel_rfl
  g19 := by kernel_rfl
  i0 := by kernel_rfl
  i2 := by kernel_rfl
  i3 := by kernel_rfl
  i4 := by kernel_rfl
  i5 := by kernel_rfl
  i9 := by kernel_rfl
  i20 := by kernel_rfl
  i37 := by kernel_rfl
  i46 := by kernel_rfl
  i51 := by kernel_rfl
  i53 := by kernel_rfl
  i171 := by kernel_rfl
  i173 := by kernel_rfl
  i212 := by kernel_rfl
  i232 := by kernel_rfl
  i233 := by kernel_rfl
  m17 := by kernel_rfl
  m18 := by kernel_rfl
  m19 := by kernel_rfl }
def Tryd.lays173_ren : Go.Shelf.Ren := ⟨fun | 173 => 54 | 246 => 75 | 283 => 88 | 284 => 89 | 285 => 90 | 286 => 91 | 129 => 100 | 317 => 99 | 318 => 101 | 319 => 102 | 320 => 103 | 337 => 112 | 338 => 113 | n => n, fun | 2 => 2 | 3 => 3 | 9 => 9 | 4 => 4 | 171 => 130 | 0 => 0 | 53 => 131 | 37 => 57 | 5 => 5 | 173 => 134 | 212 => 143 | 51 => 144 | 20 => 20 | 213 => 145 | 46 => 107 | 232 => 160 | 233 => 161 | n => n, fun | 17 => 0 | 18 => 4 | 19 => 5 | n => n⟩
theorem Tryd.lays173 : Go.Proofs.Lays.n173 Tryd.prog Tryd.lays173_ren := {
  mixed := by kernel_rfl
  f129 := Tryd.func100.trans (congrArg some (by kernel_rfl))
  f173 := Tryd.func54.trans (congrArg some (by kernel_rfl))
  f246 := Tryd.func75.trans (congrArg some (by kernel_rfl))
  f283 := Tryd.func88.trans (congrArg some (by kernel_rfl))
  f284 := Tryd.func89.trans (congrArg some (by kernel_rfl))
  f285 := Tryd.func90.trans (congrArg some (by kernel_rfl))
  f286 := Tryd.func91.trans (congrArg some (by kernel_rfl))
  f317 := Tryd.func99.trans (congrArg some (by kernel_rfl))
  f318 := Tryd.func101.trans (congrArg some (by kernel_rfl))
  f319 := Tryd.func102.trans (congrArg some (by kernel_rfl))
  f320 := Tryd.func103.trans (congrArg some (by kernel_rfl))
  f337 := Tryd.func112.trans (congrArg some (by kernel_rfl))
  f338 := Tryd.func113.trans (congrArg some (by kernel_rfl))
  t0 := Tryd.underlying0
  a0 := Tryd.isAgg0
  z0 := Tryd.sizeOf0
  v0 := Tryd.zeroValue0
  t2 := Tryd.underlying2
  a2 := Tryd.isAgg2
  z2 := Tryd.sizeOf2
  v2 := Tryd.zeroValue2
  t3 := Tryd.underlying3
  a3 := Tryd.isAgg3
  z3 := Tryd.sizeOf3
  v3 := Tryd.zeroValue3
  t4 := Tryd.underlying4
  a4 := Tryd.isAgg4
  z4 := Tryd.sizeOf4
  v4 := Tryd.zeroValue4
  t5 := Tryd.underlying5
  a5 := Tryd.isAgg5
  z5 := Tryd.sizeOf5
  v5 := Tryd.zeroValue5
  t9 := Tryd.underlying9
  a9 := Tryd.isAgg9
  z9 := Tryd.sizeOf9
  v9 := Tryd.zeroValue9
  t20 := Tryd.underlying20
  a20 := Tryd.isAgg20
  z20 := Tryd.sizeOf20
  v20 := Tryd.zeroValue20
  t37 := Tryd.underlying57
  a37 := Tryd.isAgg57
  z37 := Tryd.sizeOf57
  v37 := Tryd.zeroValue57
  t46 := Tryd.underlying107
  a46 := Tryd.isAgg107
  z46 := Tryd.sizeOf107
  v46 := Tryd.zeroValue107
  t51 := Tryd.underlying144
  a51 := Tryd.isAgg144
  z51 := Tryd.sizeOf144
  v51 := Tryd.zeroValue144
  t53 := Tryd.underlying131
  a53 := Tryd.isAgg131
  z53 := Tryd.sizeOf131
  v53 := Tryd.zeroValue131
  t171 := Tryd.underlying130
  a171 := Tryd.isAgg130
  z171 := Tryd.sizeOf130
  v171 := Tryd.zeroValue130
  t173 := Tryd.underlying134
  a173 := Tryd.isAgg134
  z173 := Tryd.sizeOf134
  v173 := Tryd.zeroValue134
  t212 := Tryd.underlying143
  a212 := Tryd.isAgg143
  z212 := Tryd.sizeOf143
  v212 := Tryd.zeroValue143
  t213 := Tryd.underlying145
  a213 := Tryd.isAgg145
  z213 := Tryd.sizeOf145
  t232 := Tryd.underlying160
  a232 := Tryd.isAgg160
  z232 := Tryd.sizeOf160
  v232 := Tryd.zeroValue160
  t233 := Tryd.underlying161
  a233 := Tryd.isAgg161
  z233 := Tryd.sizeOf161
  v233 := Tryd.zeroValue161
  g17 := by kernel_rfl
  g18 := by kernel_rfl
  g19 := by kernel_rfl }
end Go.Proofs
