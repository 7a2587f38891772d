/- What is proved here: items that a call makes one by one, their bytes in slices that were there or in new ones: kept while the row grows. -/
import Derived.Test.YtnmbdannipebnaaGreatDoorJ9
import Derived.Test.YtnmbdannipebnaaGreatDoorJ1
import Derived.Test.YtnmbdannipebnaaGreatDoorJ5
namespace Go.Proofs.YtnmbdannipebnaaGreatDoor
open Go.RowKit
set_option linter.unusedVariables false
set_option maxRecDepth 100000

/-- The bytes z lie behind a slice that was there at w0, or in a row that the call owns. -/
def Src (w0 : World) (B : Nat) (W : World) (u : Value) (z : List Int) : Prop :=
  (∃ sa sl sc, u = .slice sa sl sc ∧ BRow w0 sa sl z ∧ (sa = none → sc = 0)) ∨ (W.ownsRow B 5 1 u z.length (z.map (Value.int .u8)) ∧ ∀ x ∈ z, 0 ≤ x ∧ x ≤ 255)

theorem Src.below {w0 W W' : World} {B C : Nat} {u : Value} {z : List Int} (h : Src w0 B W u z) (hb : Below C W W') (hC : W.heap.size ≤ C) : Src w0 B W' u z := by
  rcases h with h | ⟨h, hz⟩
  · exact .inl h
  · exact .inr ⟨own_below h hb hC, hz⟩

theorem Src.grown {w0 W W' : World} {B B' s n : Nat} {e : TypeId} {u v : Value} {z : List Int} {xs : List Value} (h : Src w0 B W u z) (hv : W.ownsRow B' e s v n xs) (he : e ≠ 5) (hg : W.grownBy W' v.ownBlock) : Src w0 B W' u z := by
  rcases h with h | ⟨h, hz⟩
  · exact .inl h
  · exact .inr ⟨own_grown h hg (own_apart hv h he), hz⟩

/-- What a source reads as. -/
theorem Src.reads {w0 W : World} {B : Nat} {u : Value} {z : List Int} (h : Src w0 B W u z) (hb : Below B w0 W) (hB : w0.heap.size ≤ B) : ∃ sa sl sc, u = .slice sa sl sc ∧ BRow W sa sl z ∧ (sa = none → sc = 0) := by
  rcases h with ⟨sa, sl, sc, rfl, hr, hn⟩ | ⟨h, hz⟩
  · exact ⟨sa, sl, sc, rfl, hr.below hb hB, hn⟩
  · obtain ⟨sa, sc, rfl⟩ := own_shape h
    refine ⟨sa, z.length, sc, rfl, BRow.own2 h hz, fun e => ?_⟩
    subst e
    rcases h.2 with ⟨q, _⟩ | ⟨g, cap, cur, q, _⟩
    · simp only [Value.slice.injEq] at q; exact q.2.2
    · simp at q

/-- Items that were made. -/
def HkR (w0 : World) (B : Nat) (W : World) (v : Value) (n : Nat) (its : List It) : Prop :=
  its.length = n ∧ (∀ it ∈ its, ItOk it) ∧ Below B w0 W ∧ ∃ vs : List Value, vs.length = its.length ∧ W.ownsRow B 204 3 v n (cellsOf its vs) ∧ ∀ (i : Nat) (it : It) (u : Value), its[i]? = some it → vs[i]? = some u → Src w0 B W u it.z

theorem HkR.below {w0 W W' : World} {B C n : Nat} {v : Value} {its : List It} (h : HkR w0 B W v n its) (hb : Below C W W') (hC : W.heap.size ≤ C) (hB : B ≤ W.heap.size) : HkR w0 B W' v n its := by
  obtain ⟨h1, h2, hb0, vs, h3, h4, h5⟩ := h
  exact ⟨h1, h2, hb0.trans (hb.mono (by omega)), vs, h3, own_below h4 hb hC, fun i it u hi hu => (h5 i it u hi hu).below hb hC⟩

/-- One item more. -/
theorem HkR.snoc {w0 W W' : World} {B n : Nat} {v v' u : Value} {its : List It} {it : It} {vs : List Value} (h1 : its.length = n) (h2 : ∀ it ∈ its, ItOk it) (hb0 : Below B w0 W) (h3 : vs.length = its.length) (h4 : W.ownsRow B 204 3 v n (cellsOf its vs)) (h5 : ∀ (i : Nat) (it : It) (u : Value), its[i]? = some it → vs[i]? = some u → Src w0 B W u it.z)
    (hB : B ≤ W.heap.size) (hu : Src w0 B W u it.z) (hok : ItOk it) (hown : W'.ownsRow B 204 3 v' (n + 1) (cellsOf its vs ++ [.bool it.l, .int .i64 it.p, u])) (hg : W.grownBy W' v.ownBlock) : HkR w0 B W' v' (n + 1) (its ++ [it]) := by
  refine ⟨by simp [h1], fun x hx => ?_, hb0.grown hg hB (fun q e => (h4.lt q e).1), vs ++ [u], by simp [h3], by rw [cellsOf_snoc its vs it u h3]; exact hown, fun i x q hi hq => ?_⟩
  · rcases List.mem_append.1 hx with hx | hx
    · exact h2 x hx
    · rw [List.mem_singleton.1 hx]; exact hok
  · by_cases hlt : i < its.length
    · rw [List.getElem?_append_left hlt] at hi
      rw [List.getElem?_append_left (by omega)] at hq
      exact (h5 i x q hi hq).grown h4 (by decide) hg
    · rw [List.getElem?_append_right (by omega)] at hi
      rw [List.getElem?_append_right (by omega)] at hq
      rw [h3] at hq
      cases hk : i - its.length with
      | zero =>
        rw [hk] at hi hq
        simp at hi hq
        subst hi hq
        exact hu.grown h4 (by decide) hg
      | succ m => rw [hk] at hi; simp at hi

/-- What was made reads as items. -/
theorem HkR.row {w0 W : World} {B n cap : Nat} {a : Option Addr} {its : List It} (h : HkR w0 B W (.slice a n cap) n its) (hB : w0.heap.size ≤ B) : ItRowN W a n its := by
  obtain ⟨h1, h2, hb0, vs, h3, h4, h5⟩ := h
  have key0 : ∀ (i : Nat) (it : It), its[i]? = some it → ∃ u, vs[i]? = some u := fun i it hi => ⟨_, List.getElem?_eq_getElem (by have := (List.getElem?_eq_some_iff.1 hi).1; omega)⟩
  refine ⟨⟨h1, h2, fun hp => ?_⟩, fun b off e i hi => ?_⟩
  · obtain ⟨g, c, e⟩ := own_some h4 hp
    cases e
    refine ⟨g, 0, rfl, fun i it hi => ?_⟩
    have hlt : i < its.length := (List.getElem?_eq_some_iff.1 hi).1
    obtain ⟨u, hu⟩ := key0 i it hi
    obtain ⟨c0, c1, c2⟩ := cellsOf_at its vs i it u h3 hi hu
    obtain ⟨sa, sl, sc, rfl, hr, _⟩ := (h5 i it u hi hu).reads hb0 hB
    rw [Nat.zero_add]
    have key : ∀ k v, k < n * 3 → (cellsOf its vs)[k]? = some v → W.cell? ⟨g, k, none⟩ = some v := fun k v hk hv => by rw [h4.cellAt k hk]; exact hv
    exact ⟨sa, sl, sc, key _ _ (by omega) c0, key _ _ (by omega) c1, key _ _ (by omega) c2, hr⟩
  · have hp : 0 < n := by omega
    obtain ⟨g, c, e'⟩ := own_some h4 hp
    cases e'
    simp only [Option.some.injEq, Addr.mk.injEq, and_true] at e
    obtain ⟨rfl, rfl⟩ := e
    obtain ⟨it, hit⟩ : ∃ it, its[i]? = some it := ⟨_, List.getElem?_eq_getElem (by omega)⟩
    obtain ⟨u, hu⟩ := key0 i it hit
    obtain ⟨_, _, c2⟩ := cellsOf_at its vs i it u h3 hit hu
    obtain ⟨sa, sl, sc, rfl, _, hn⟩ := (h5 i it u hit hu).reads hb0 hB
    refine ⟨sa, sl, sc, ?_, hn⟩
    rw [Nat.zero_add, h4.cellAt _ (by omega)]
    exact c2

/-- The parts that are handed over: in a slice that was there, or in a row that the call owns. -/
def PRow (w0 : World) (B : Nat) (W : World) (pa : Option Addr) (pn : Nat) (zss : List (List Int)) : Prop :=
  zss.length = pn ∧ (∀ z ∈ zss, z.length ≤ maxLen) ∧ ∃ us : List Value, us.length = pn ∧ (∀ (i : Nat) (z : List Int) (u : Value), zss[i]? = some z → us[i]? = some u → Src w0 B W u z) ∧
    ((∃ b off, pa = some ⟨b, off, none⟩ ∧ ∀ (i : Nat) (u : Value), us[i]? = some u → w0.cell? ⟨b, off + i, none⟩ = some u) ∨ (∃ pc, W.ownsRow B 29 1 (.slice pa pn pc) pn us) ∨ pn = 0)

theorem PRow.below {w0 W W' : World} {B C pn : Nat} {pa : Option Addr} {zss : List (List Int)} (h : PRow w0 B W pa pn zss) (hb : Below C W W') (hC : W.heap.size ≤ C) : PRow w0 B W' pa pn zss := by
  obtain ⟨h1, h2, us, h3, h4, h5⟩ := h
  refine ⟨h1, h2, us, h3, fun i z u hz hu => (h4 i z u hz hu).below hb hC, ?_⟩
  rcases h5 with h5 | ⟨pc, h5⟩ | h5
  · exact .inl h5
  · exact .inr (.inl ⟨pc, own_below h5 hb hC⟩)
  · exact .inr (.inr h5)

theorem PRow.grown {w0 W W' : World} {B pn n : Nat} {pa : Option Addr} {zss : List (List Int)} {v : Value} {xs : List Value} (h : PRow w0 B W pa pn zss) (hv : W.ownsRow B 204 3 v n xs) (hg : W.grownBy W' v.ownBlock) : PRow w0 B W' pa pn zss := by
  obtain ⟨h1, h2, us, h3, h4, h5⟩ := h
  refine ⟨h1, h2, us, h3, fun i z u hz hu => (h4 i z u hz hu).grown hv (by decide) hg, ?_⟩
  rcases h5 with h5 | ⟨pc, h5⟩ | h5
  · exact .inl h5
  · exact .inr (.inl ⟨pc, own_grown h5 hg (own_apart hv h5 (by decide))⟩)
  · exact .inr (.inr h5)

/-- The part at a place. -/
theorem PRow.at {w0 W : World} {B pn : Nat} {pa : Option Addr} {zss : List (List Int)} (h : PRow w0 B W pa pn zss) (hb : Below B w0 W) (hB : w0.heap.size ≤ B) {k : Nat} {z : List Int} (hk : zss[k]? = some z) :
    ∃ b off sa sl sc, pa = some ⟨b, off, none⟩ ∧ W.cell? ⟨b, off + k, none⟩ = some (.slice sa sl sc) ∧ Src w0 B W (.slice sa sl sc) z := by
  obtain ⟨h1, h2, us, h3, h4, h5⟩ := h
  have hkl : k < pn := by have := (List.getElem?_eq_some_iff.1 hk).1; omega
  obtain ⟨u, hu⟩ : ∃ u, us[k]? = some u := ⟨_, List.getElem?_eq_getElem (by omega)⟩
  have hs := h4 k z u hk hu
  obtain ⟨sa, sl, sc, rfl, _, _⟩ := hs.reads hb hB
  rcases h5 with ⟨b, off, e, hc⟩ | ⟨pc, h5⟩ | h5
  · have c := hc k _ hu
    exact ⟨b, off, sa, sl, sc, e, (hb.cell (Nat.lt_of_lt_of_le (lt_of_cell c) hB)).trans c, hs⟩
  · obtain ⟨g, c, e⟩ := own_some h5 (by omega)
    cases e
    exact ⟨g, 0, sa, sl, sc, rfl, by rw [Nat.zero_add, h5.cellAt k (by omega)]; exact hu, hs⟩
  · omega

end Go.Proofs.YtnmbdannipebnaaGreatDoor

/- What is proved here: plain facts on the short bytes of a number, the highest first; no program is named. -/
namespace Go.Proofs.YtnmbdannipebnaaGreatDoor
set_option linter.unusedVariables false
set_option maxRecDepth 100000

/-- The bytes of a number, the highest first, no zero ahead; the first argument bounds how many. -/
def shortF : Nat → Int → List Int
  | 0, _ => []
  | k + 1, n => if n = 0 then [] else shortF k (n / 256) ++ [n % 256]

theorem shortF_zero (k : Nat) : shortF k 0 = [] := by cases k <;> simp [shortF]

theorem shortF_succ (k : Nat) (n : Int) (h : 0 < n) : shortF (k + 1) n = shortF k (n / 256) ++ [n % 256] := by
  rw [shortF, if_neg (by omega)]

theorem shortF_range : ∀ (k : Nat) (n : Int), ∀ x ∈ shortF k n, 0 ≤ x ∧ x ≤ 255
  | 0, _, x, hx => by simp [shortF] at hx
  | k + 1, n, x, hx => by
    unfold shortF at hx
    split at hx
    · simp at hx
    · rcases List.mem_append.1 hx with h | h
      · exact shortF_range k (n / 256) x h
      · simp at h; omega

theorem shortF_length : ∀ (k : Nat) (n : Int), (shortF k n).length ≤ k
  | 0, _ => by simp [shortF]
  | k + 1, n => by
    have := shortF_length k (n / 256)
    unfold shortF
    split <;> simp <;> omega

theorem shortF_pos (n : Int) (h : 0 < n) : 0 < (shortF 7 n).length := by
  rw [shortF_succ 6 n h]
  simp

theorem pow_step (rest : Int) (m : Nat) (h0 : 0 < rest) (h : rest < 256 ^ m) : ∃ k, m = k + 1 ∧ rest / 256 < 256 ^ k := by
  cases m with
  | zero => simp at h; omega
  | succ k =>
    refine ⟨k, rfl, ?_⟩
    rw [Int.pow_succ] at h
    generalize (256 : Int) ^ k = p at h
    omega

theorem room_step (room : List Int) (k : Nat) (z : Int) (h : k < room.length) : (room.set k z).drop k = z :: room.drop (k + 1) := by
  rw [List.drop_eq_getElem_cons (by simpa using h)]
  simp [List.drop_set_of_lt]

theorem room_range (room : List Int) (k : Nat) (z : Int) (hz : 0 ≤ z ∧ z ≤ 255) (h : ∀ x ∈ room, 0 ≤ x ∧ x ≤ 255) : ∀ x ∈ room.set k z, 0 ≤ x ∧ x ≤ 255 := by
  intro x hx
  rcases List.mem_or_eq_of_mem_set hx with h' | h'
  · exact h x h'
  · subst h'; exact hz

/-- What holds of the room while the bytes of n are written into it from its end. -/
def Room (n : Int) (m : Nat) (rest : Int) (room : List Int) : Prop :=
  m ≤ 7 ∧ 0 ≤ rest ∧ rest < 256 ^ m ∧ room.length = 7 ∧ (∀ x ∈ room, 0 ≤ x ∧ x ≤ 255) ∧ shortF 7 n = shortF m rest ++ room.drop m

theorem Room.start (n : Int) (h0 : 0 ≤ n) (h1 : n ≤ 1125899906842624) : Room n 7 n [0, 0, 0, 0, 0, 0, 0] := by
  refine ⟨Nat.le_refl _, h0, ?_, rfl, by intro x hx; simp at hx; omega, by simp⟩
  have e : (256 : Int) ^ 7 = 72057594037927936 := by decide
  rw [e]; omega

theorem Room.step {n rest : Int} {m : Nat} {room : List Int} (h : Room n m rest room) (hr : 0 < rest) :
    ∃ k, m = k + 1 ∧ Room n k (rest / 256) (room.set k (rest % 256)) := by
  obtain ⟨h1, h2, h3, h4, h5, h6⟩ := h
  obtain ⟨k, rfl, hk⟩ := pow_step rest m hr h3
  refine ⟨k, rfl, by omega, by omega, hk, by simpa using h4, room_range room k _ (by omega) h5, ?_⟩
  rw [room_step room k _ (by omega), h6, shortF_succ k rest hr]
  simp

theorem Room.done {n rest : Int} {m : Nat} {room : List Int} (h : Room n m rest room) (hr : rest = 0) : shortF 7 n = room.drop m := by
  subst hr
  rw [h.2.2.2.2.2, shortF_zero, List.nil_append]

theorem Room.bd {n rest : Int} {m : Nat} {room : List Int} (h : Room n m rest room) : rest < 72057594037927936 := by
  have e : (256 : Int) ^ 7 = 72057594037927936 := by decide
  have hm : (256 : Int) ^ m ≤ 256 ^ 7 := by
    have := h.1
    rcases (by omega : m = 0 ∨ m = 1 ∨ m = 2 ∨ m = 3 ∨ m = 4 ∨ m = 5 ∨ m = 6 ∨ m = 7) with r | r | r | r | r | r | r | r <;> subst r <;> decide
  rw [e] at hm
  exact Int.lt_of_lt_of_le h.2.2.1 hm

end Go.Proofs.YtnmbdannipebnaaGreatDoor

/- What is proved here: plain facts on the bytes that stand ahead of an item; no program is named. -/
namespace Go.Proofs.YtnmbdannipebnaaGreatDoor
set_option linter.unusedVariables false
set_option maxRecDepth 100000

/-- The first number of a head. -/
def headB (l : Bool) : Int := if l then 192 else 128

theorem headB_in (l : Bool) : 128 ≤ headB l ∧ headB l ≤ 192 := by cases l <;> decide

/-- The bytes ahead of n bytes. -/
def headL (l : Bool) (n : Int) : List Int := if n ≤ 55 then [headB l + n] else (headB l + 55 + (shortF 7 n).length) :: shortF 7 n

theorem shortF_small (n : Int) (h0 : 0 ≤ n) (h : n < 16777216) : (shortF 7 n).length ≤ 3 := by
  by_cases a : n = 0
  · subst a; rw [shortF_zero]; simp
  by_cases b : n / 256 = 0
  · rw [shortF_succ 6 n (by omega), b, shortF_zero]; simp
  by_cases c : n / 256 / 256 = 0
  · rw [shortF_succ 6 n (by omega), shortF_succ 5 (n / 256) (by omega), c, shortF_zero]; simp
  have d : n / 256 / 256 / 256 = 0 := by omega
  rw [shortF_succ 6 n (by omega), shortF_succ 5 (n / 256) (by omega), shortF_succ 4 (n / 256 / 256) (by omega), d, shortF_zero]; simp

theorem headL_range (l : Bool) (n : Int) (h0 : 0 ≤ n) (h : n < 16777216) : ∀ x ∈ headL l n, 0 ≤ x ∧ x ≤ 255 := by
  have hb := headB_in l
  have hs := shortF_small n h0 h
  unfold headL
  split
  · intro x hx; simp at hx; omega
  · intro x hx
    rcases List.mem_cons.1 hx with e | e
    · omega
    · exact shortF_range 7 n x e

theorem headL_length (l : Bool) (n : Int) : (headL l n).length ≤ 8 := by
  have := shortF_length 7 n
  unfold headL
  split
  · simp
  · simp; omega

/-- What HeadBytes answers: its code and its bytes. -/
def hdCode (n : Int) : Int := if 0 ≤ n ∧ n ≤ 1200 then 0 else 3
def hdBytes (l : Bool) (n : Int) : List Int := if 0 ≤ n ∧ n ≤ 1200 then headL l n else []

theorem hdBytes_range (l : Bool) (n : Int) : ∀ x ∈ hdBytes l n, 0 ≤ x ∧ x ≤ 255 := by
  unfold hdBytes
  split
  · exact headL_range l n (by omega) (by omega)
  · intro x hx; simp at hx

theorem hdBytes_length (l : Bool) (n : Int) : (hdBytes l n).length ≤ 8 := by
  unfold hdBytes
  split
  · exact headL_length l n
  · simp

end Go.Proofs.YtnmbdannipebnaaGreatDoor

/- What is proved here: plain facts on the bytes of a header: what it is packed to, and that a header without a fault is small; no program is named. -/
namespace Go.Proofs.YtnmbdannipebnaaGreatDoor
open Go.RowKit
set_option linter.unusedVariables false
set_option maxRecDepth 100000

/-- The head of bytes as an item: none for one small byte. -/
def pcHd (z : List Int) : List Int := if z.length = 1 ∧ z.getD 0 0 < 128 then [] else headL false z.length

/-- Bytes as an item. -/
def pcL (z : List Int) : List Int := pcHd z ++ z

/-- Slices of bytes, as items one behind the other. -/
def pcsL (zss : List (List Int)) : List Int := zss.flatMap pcL

/-- Items as a list. -/
def wrapL (z : List Int) : List Int := headL true z.length ++ z

def listL (zss : List (List Int)) : List Int := wrapL (pcsL zss)

/-- What is in the list of a header, up to each of its parts. -/
def bd1 (h : Hd) : List Int := pcL h.p ++ pcL (shortF 7 h.n1)
def bd2 (h : Hd) : List Int := bd1 h ++ pcL (shortF 7 h.n2) ++ pcL (shortF 7 h.n3)
def bd3 (h : Hd) : List Int := bd2 h ++ pcL h.t ++ pcL (shortF 7 h.n5)
def bd4 (h : Hd) : List Int := bd3 h ++ listL h.s ++ pcL h.r
def bd5 (h : Hd) : List Int := bd4 h ++ pcL h.g ++ pcL h.e
def bd6 (h : Hd) : List Int := bd5 h ++ listL h.k

def packL (h : Hd) : List Int := wrapL (bd6 h)

/-- What a header without a fault keeps to. -/
structure HGood (h : Hd) : Prop where
  p : h.p.length = 32
  n1 : 0 ≤ h.n1 ∧ h.n1 ≤ 1099511627776
  n2 : 0 ≤ h.n2 ∧ h.n2 ≤ 1099511627776
  n3 : 0 ≤ h.n3 ∧ h.n3 ≤ 9
  t : h.t.length ≤ 4
  n5 : 0 ≤ h.n5 ∧ h.n5 ≤ 2
  s : h.s.length ≤ 7
  sz : ∀ z ∈ h.s, z.length ≤ 8
  r : h.r.length = 32
  g : h.g.length = 4
  e : h.e.length ≤ 4
  k : h.k.length ≤ 7
  kz : ∀ z ∈ h.k, z.length ≤ 8

theorem sgFrom_zero (zss : List (List Int)) : ∀ (r : List (List Int)) (k : Nat), sgFrom zss k r = 0 → ∀ z ∈ r, z.length = 4
  | [], k, _, z, hz => by simp at hz
  | a :: r, k, h, z, hz => by
    unfold sgFrom at h
    split at h
    · omega
    · rename_i hb
      rcases List.mem_cons.1 hz with e | e
      · subst e
        have : sgBad zss k z = false := by simpa using hb
        unfold sgBad at this
        simp at this
        exact this.1
      · exact sgFrom_zero zss r (k + 1) h z e

theorem coFrom_zero : ∀ (r : List (List Int)), coFrom r = 0 → ∀ z ∈ r, z.length = 8
  | [], _, z, hz => by simp at hz
  | a :: r, h, z, hz => by
    unfold coFrom at h
    split at h
    · rename_i ha
      rcases List.mem_cons.1 hz with e | e
      · subst e; exact ha
      · exact coFrom_zero r h z e
    · omega

theorem good_of {h : Hd} (hf : hdFlt h = 0) : HGood h := by
  unfold hdFlt at hf
  split at hf
  · omega
  · rename_i h1
    split at hf
    · omega
    · rename_i h2
      split at hf
      · rename_i h3
        have l1 : hdLen h = false := by simpa using h1
        have n1 : hdNum h = true := by simpa using h2
        unfold hdLen at l1
        simp only [Bool.or_eq_false_iff, Bool.and_eq_false_iff, bne_eq_false_iff_eq] at l1
        obtain ⟨⟨⟨⟨a1, a2⟩, a3⟩, a4⟩, a5⟩ := l1
        unfold hdNum within at n1
        simp only [Bool.and_eq_true, decide_eq_true_eq] at n1
        obtain ⟨⟨⟨c1, c2⟩, c3⟩, c5⟩ := n1
        unfold sgFlt at h3
        split at h3
        · omega
        · rename_i s7
          have hs := sgFrom_zero h.s h.s 0 h3
          unfold coFlt at hf
          split at hf
          · omega
          · rename_i k7
            have hk := coFrom_zero h.k hf
            exact ⟨by omega, c1, c2, c3, by omega, c5, by omega, fun z hz => by have := hs z hz; omega, by omega, by omega, by omega, by omega, fun z hz => by have := hk z hz; omega⟩
      · omega

theorem pcL_length (z : List Int) : (pcL z).length ≤ 8 + z.length := by
  unfold pcL
  rw [List.length_append]
  have : (pcHd z).length ≤ 8 := by
    unfold pcHd
    split
    · simp
    · exact headL_length _ _
  omega

theorem pcsL_length : ∀ (zss : List (List Int)), (∀ z ∈ zss, z.length ≤ 8) → (pcsL zss).length ≤ 16 * zss.length
  | [], _ => by simp [pcsL]
  | z :: r, h => by
    have h1 := pcsL_length r (fun y hy => h y (List.mem_cons_of_mem _ hy))
    have h2 := pcL_length z
    have h3 := h z List.mem_cons_self
    unfold pcsL at h1 ⊢
    rw [List.flatMap_cons, List.length_append, List.length_cons]
    omega

theorem wrapL_length (z : List Int) : (wrapL z).length ≤ 8 + z.length := by
  unfold wrapL
  rw [List.length_append]
  have := headL_length true z.length
  omega

theorem listL_length (zss : List (List Int)) (h : ∀ z ∈ zss, z.length ≤ 8) (hl : zss.length ≤ 7) : (listL zss).length ≤ 120 := by
  have h1 := wrapL_length (pcsL zss)
  have h2 := pcsL_length zss h
  unfold listL
  omega

theorem sh_length (n : Int) : (shortF 7 n).length ≤ 7 := shortF_length 7 n

theorem bd_length {h : Hd} (g : HGood h) : (bd1 h).length ≤ 60 ∧ (bd2 h).length ≤ 100 ∧ (bd3 h).length ≤ 140 ∧ (bd4 h).length ≤ 300 ∧ (bd5 h).length ≤ 340 ∧ (bd6 h).length ≤ 460 := by
  have a1 := pcL_length h.p
  have a2 := pcL_length (shortF 7 h.n1)
  have a3 := pcL_length (shortF 7 h.n2)
  have a4 := pcL_length (shortF 7 h.n3)
  have a5 := pcL_length h.t
  have a6 := pcL_length (shortF 7 h.n5)
  have a7 := listL_length h.s g.sz g.s
  have a8 := pcL_length h.r
  have a9 := pcL_length h.g
  have a10 := pcL_length h.e
  have a11 := listL_length h.k g.kz g.k
  have s1 := sh_length h.n1
  have s2 := sh_length h.n2
  have s3 := sh_length h.n3
  have s5 := sh_length h.n5
  have := g.p
  have := g.t
  have := g.r
  have := g.g
  have := g.e
  unfold bd6 bd5 bd4 bd3 bd2 bd1
  simp only [List.length_append]
  omega

end Go.Proofs.YtnmbdannipebnaaGreatDoor

/- What is proved here: plain facts on the way up from an item to the first one, and on the fault of items; no program is named. -/
namespace Go.Proofs.YtnmbdannipebnaaGreatDoor
open Go.RowKit
set_option linter.unusedVariables false
set_option maxRecDepth 100000

/-- The places from one up to the first one: each one's parent is ahead of it; the first one's is -1. -/
def IsWay (its : List It) : Int → List Nat → Prop
  | a, [] => a = -1
  | a, k :: r => a = (k : Int) ∧ ∃ it, its[k]? = some it ∧ -1 ≤ it.p ∧ it.p < k ∧ IsWay its it.p r

/-- The same, reckoned. -/
def wayF (its : List It) : Nat → Int → List Nat
  | 0, _ => []
  | n + 1, a => if a < 0 then [] else match its[a.toNat]? with
    | none => []
    | some it => a.toNat :: wayF its n it.p

theorem IsWay.fuel {its : List It} : ∀ {xs : List Nat} {a : Int} {n : Nat}, IsWay its a xs → a < n → wayF its n a = xs
  | [], a, n, h, _ => by
    obtain rfl : a = -1 := h
    cases n <;> rfl
  | k :: r, a, 0, h, hn => by
    obtain ⟨rfl, _⟩ := h
    omega
  | k :: r, a, n + 1, h, hn => by
    obtain ⟨rfl, it, hit, _, hlt, hr⟩ := h
    unfold wayF
    rw [if_neg (by omega), Int.toNat_natCast, hit]
    show k :: wayF its n it.p = k :: r
    rw [hr.fuel (by omega)]

theorem wayF_len (its : List It) : ∀ (n : Nat) (a : Int), (wayF its n a).length ≤ n
  | 0, _ => Nat.le_refl _
  | n + 1, a => by
    unfold wayF
    split
    · simp
    · split
      · simp
      · have := wayF_len its n (by assumption : It).p
        simp; omega

theorem IsWay.ge {its : List It} {xs : List Nat} {a : Int} (h : IsWay its a xs) : -1 ≤ a := by
  cases xs with
  | nil => have : a = -1 := h; omega
  | cons k r => obtain ⟨rfl, _⟩ := h; omega

/-- The first K items have parents ahead of them. -/
def UpOk (its : List It) (K : Nat) : Prop := ∀ j it, j < K → its[j]? = some it → (j = 0 → it.p = -1) ∧ (0 < j → 0 ≤ it.p ∧ it.p < j)

theorem UpOk.way {its : List It} {K : Nat} (h : UpOk its K) (hK : K ≤ its.length) : ∀ (j : Nat), j < K → ∃ xs, IsWay its (j : Int) xs := by
  intro j
  induction j using Nat.strongRecOn with
  | ind j ih =>
    intro hj
    have hl : j < its.length := by omega
    obtain ⟨it, hit⟩ : ∃ it, its[j]? = some it := ⟨_, List.getElem?_eq_getElem hl⟩
    obtain ⟨h0, h1⟩ := h j it hj hit
    by_cases e : j = 0
    · subst e
      have hp := h0 rfl
      exact ⟨[0], rfl, it, hit, by omega, by omega, hp⟩
    · obtain ⟨p0, p1⟩ := h1 (by omega)
      obtain ⟨q, hq⟩ : ∃ q : Nat, it.p = (q : Int) := ⟨it.p.toNat, by omega⟩
      obtain ⟨xs, hx⟩ := ih q (by omega) (by omega)
      exact ⟨j :: xs, rfl, it, hit, by omega, p1, by rw [hq]; exact hx⟩

/-- The way up from a place. -/
def upL (its : List It) (a : Int) : List Nat := wayF its (its.length + 1) a

theorem IsWay.up {its : List It} {xs : List Nat} {a : Int} (h : IsWay its a xs) (ha : a ≤ its.length) : upL its a = xs := h.fuel (by omega)

def lAt (its : List It) (q : Nat) : Bool := match its[q]? with
  | none => false
  | some it => it.l

/-- The fault of the item at a place, those ahead of it having none. -/
def fltAt (its : List It) (i : Nat) (it : It) : Int :=
  if it.l = true ∧ 0 < it.z.length then 1
  else if 300 < it.z.length then 2
  else if i = 0 then (if it.p = -1 then 0 else 3)
  else if it.p < 0 ∨ (i : Int) ≤ it.p then 3
  else if lAt its it.p.toNat = true ∧ it.p.toNat ∈ upL its ((i : Int) - 1) then (if 5 < (upL its i).length then 2 else 0)
  else 1

/-- The first fault among the items from a place on. -/
def fltFrom (its : List It) : Nat → List It → Int
  | _, [] => 0
  | i, it :: r => if fltAt its i it = 0 then fltFrom its (i + 1) r else fltAt its i it

def itemsFlt (its : List It) : Int := if its.length < 1 ∨ 200 < its.length then 2 else fltFrom its 0 its

theorem fltFrom_step (its : List It) (k : Nat) (it : It) (h : its[k]? = some it) : fltFrom its k (its.drop k) = if fltAt its k it = 0 then fltFrom its (k + 1) (its.drop (k + 1)) else fltAt its k it := by
  obtain ⟨hk, e⟩ := List.getElem?_eq_some_iff.1 h
  rw [List.drop_eq_getElem_cons hk, e]
  rfl

theorem fltFrom_end (its : List It) (k : Nat) (h : its.length ≤ k) : fltFrom its k (its.drop k) = 0 := by
  rw [List.drop_eq_nil_of_le h]; rfl

/-- Items without a fault have their parents ahead. -/
theorem upOk_step {its : List It} {k : Nat} {it : It} (h : UpOk its k) (hit : its[k]? = some it) (h0 : k = 0 → it.p = -1) (h1 : 0 < k → 0 ≤ it.p ∧ it.p < k) : UpOk its (k + 1) := by
  intro j jt hj hjt
  by_cases e : j = k
  · subst e
    obtain rfl : jt = it := by rw [hit] at hjt; exact (Option.some.inj hjt).symm
    exact ⟨h0, h1⟩
  · exact h j jt (by omega) hjt

theorem fltAt_up {its : List It} {k : Nat} {it : It} (h : fltAt its k it = 0) : (k = 0 → it.p = -1) ∧ (0 < k → 0 ≤ it.p ∧ it.p < k) := by
  unfold fltAt at h
  split at h
  · omega
  · split at h
    · omega
    · split at h
      · split at h
        · exact ⟨fun _ => by assumption, fun _ => by omega⟩
        · omega
      · split at h
        · omega
        · exact ⟨fun _ => by omega, fun _ => by omega⟩

end Go.Proofs.YtnmbdannipebnaaGreatDoor

/- What is proved here: plain facts on the parts of an item; no program is named. -/
namespace Go.Proofs.YtnmbdannipebnaaGreatDoor
open Go.RowKit
set_option linter.unusedVariables false
set_option maxRecDepth 100000

/-- The places below k whose parent is a given one. -/
def partsUp (its : List It) (at_ : Int) : Nat → List Int
  | 0 => []
  | k + 1 => partsUp its at_ k ++ (match its[k]? with
    | some it => if it.p = at_ then [(k : Int)] else []
    | none => [])

/-- What PartsOf answers: its code and its list. -/
def poCode (its : List It) (at_ : Int) : Int := if itemsFlt its = 0 then (if 0 ≤ at_ ∧ at_ ≤ (its.length : Int) - 1 then 0 else 3) else itemsFlt its
def poList (its : List It) (at_ : Int) : List Int := if itemsFlt its = 0 ∧ 0 ≤ at_ ∧ at_ ≤ (its.length : Int) - 1 then partsUp its at_ its.length else []

end Go.Proofs.YtnmbdannipebnaaGreatDoor

/- What is proved here: plain facts on items written as bytes: told from the first one down, each with all in it, or in their order, each with its head; no program is named. -/
namespace Go.Proofs.YtnmbdannipebnaaGreatDoor
open Go.RowKit
set_option linter.unusedVariables false
set_option maxRecDepth 100000

/-- The head of an item that has n bytes in it: in the model, and in the program, which has none for more than 1200. -/
def hdS (it : It) (n : Nat) : List Int := if it.l = false ∧ n = 1 ∧ it.z.getD 0 0 < 128 then [] else headL it.l n
def hdI (it : It) (n : Nat) : List Int := if it.l = false ∧ n = 1 ∧ it.z.getD 0 0 < 128 then [] else hdBytes it.l n

theorem hdI_length (it : It) (n : Nat) : (hdI it n).length ≤ 8 := by
  unfold hdI; split
  · simp
  · exact hdBytes_length _ _

theorem hd_same (it : It) (n : Nat) (h : n ≤ 1200) : hdI it n = hdS it n := by
  unfold hdI hdS
  split
  · rfl
  · unfold hdBytes; rw [if_pos (by omega)]

/-- The parent of a place; that of none is -2. -/
def pOf (its : List It) (j : Nat) : Int := match its[j]? with
  | some it => it.p
  | none => -2

/-- The places from k on, n of them, whose parent is x. -/
def kidsN (its : List It) (x : Int) : Nat → Nat → List Nat
  | 0, _ => []
  | n + 1, k => (if pOf its k = x then [k] else []) ++ kidsN its x n (k + 1)

def kidsFrom (its : List It) (x : Int) (k : Nat) : List Nat := kidsN its x (its.length - k) k

theorem kidsFrom_end (its : List It) (x : Int) (k : Nat) (h : its.length ≤ k) : kidsFrom its x k = [] := by
  unfold kidsFrom
  rw [Nat.sub_eq_zero_of_le h]; rfl

theorem kidsFrom_yes {its : List It} {x : Int} {k : Nat} (hk : k < its.length) (h : pOf its k = x) : kidsFrom its x k = k :: kidsFrom its x (k + 1) := by
  unfold kidsFrom
  rw [show its.length - k = (its.length - (k + 1)) + 1 by omega]
  show (if pOf its k = x then [k] else []) ++ _ = _
  rw [if_pos h]; rfl

theorem kidsFrom_no {its : List It} {x : Int} {k : Nat} (hk : k < its.length) (h : pOf its k ≠ x) : kidsFrom its x k = kidsFrom its x (k + 1) := by
  unfold kidsFrom
  rw [show its.length - k = (its.length - (k + 1)) + 1 by omega]
  show (if pOf its k = x then [k] else []) ++ _ = _
  rw [if_neg h]; rfl

theorem kidsN_mem (its : List It) (x : Int) : ∀ (n k j : Nat), j ∈ kidsN its x n k → k ≤ j ∧ j < k + n ∧ pOf its j = x
  | 0, _, _, h => by simp [kidsN] at h
  | n + 1, k, j, h => by
    rcases List.mem_append.1 h with e | e
    · split at e
      · simp at e; subst e; exact ⟨Nat.le_refl _, by omega, by assumption⟩
      · simp at e
    · obtain ⟨a, b, c⟩ := kidsN_mem its x n (k + 1) j e
      exact ⟨by omega, by omega, c⟩

theorem kidsFrom_mem {its : List It} {x : Int} {k j : Nat} (h : j ∈ kidsFrom its x k) : k ≤ j ∧ j < its.length ∧ pOf its j = x := by
  obtain ⟨a, b, c⟩ := kidsN_mem its x _ _ _ h
  exact ⟨a, by omega, c⟩

theorem kidsN_nil (its : List It) (x : Int) : ∀ (n k : Nat), (∀ j, k ≤ j → j < k + n → pOf its j ≠ x) → kidsN its x n k = []
  | 0, _, _ => rfl
  | n + 1, k, h => by
    show (if pOf its k = x then [k] else []) ++ _ = _
    rw [if_neg (h k (Nat.le_refl _) (by omega)), kidsN_nil its x n (k + 1) (fun j h1 h2 => h j (by omega) (by omega))]
    rfl

theorem kidsFrom_nil {its : List It} {x : Int} {k : Nat} (h : ∀ j, k ≤ j → j < its.length → pOf its j ≠ x) : kidsFrom its x k = [] :=
  kidsN_nil its x _ _ (fun j h1 h2 => h j h1 (by omega))

/-- No place up to k is a part of k or of a later one. -/
theorem kidsFrom_skip {its : List It} {x : Int} : ∀ (m k : Nat), k ≤ m → m ≤ its.length → (∀ j, k ≤ j → j < m → pOf its j ≠ x) → kidsFrom its x k = kidsFrom its x m
  | 0, k, h, _, _ => by
    obtain rfl : k = 0 := by omega
    rfl
  | m + 1, k, h, hm, hh => by
    by_cases e : k = m + 1
    · rw [e]
    · rw [kidsFrom_skip m k (by omega) (by omega) (fun j h1 h2 => hh j h1 (by omega)), kidsFrom_no (by omega) (hh m (by omega) (by omega))]

/-- An item with all in it, its head told by H. -/
def encH (H : It → Nat → List Int) (its : List It) : Nat → Nat → List Int
  | 0, _ => []
  | n + 1, i => match its[i]? with
    | none => []
    | some it => H it (it.z ++ (kidsFrom its i 0).flatMap (encH H its n)).length ++ (it.z ++ (kidsFrom its i 0).flatMap (encH H its n))

def enc (H : It → Nat → List Int) (its : List It) (i : Nat) : List Int := encH H its its.length i

theorem pOf_some {its : List It} {k : Nat} {it : It} (h : its[k]? = some it) : pOf its k = it.p := by unfold pOf; rw [h]

theorem kid_later {its : List It} (hU : UpOk its its.length) {i k j : Nat} (h : j ∈ kidsFrom its (i : Int) k) : i < j ∧ j < its.length := by
  obtain ⟨_, hl, hp⟩ := kidsFrom_mem h
  obtain ⟨it, hit⟩ : ∃ it, its[j]? = some it := ⟨_, List.getElem?_eq_getElem hl⟩
  rw [pOf_some hit] at hp
  obtain ⟨h0, h1⟩ := hU j it hl hit
  rcases Nat.eq_zero_or_pos j with e | e
  · have := h0 e; omega
  · have := h1 e; omega

theorem flatMap_eq {α β : Type} {l : List α} {f g : α → List β} (h : ∀ x ∈ l, f x = g x) : l.flatMap f = l.flatMap g := by
  induction l with
  | nil => rfl
  | cons a r ih =>
    rw [List.flatMap_cons, List.flatMap_cons, h a (by simp), ih (fun x hx => h x (by simp [hx]))]

theorem encH_fuel (H : It → Nat → List Int) {its : List It} (hU : UpOk its its.length) : ∀ (n m i : Nat), its.length ≤ i + n → its.length ≤ i + m → encH H its n i = encH H its m i
  | 0, 0, _, _, _ => rfl
  | 0, m + 1, i, h, _ => by
    have : its[i]? = none := List.getElem?_eq_none (by omega)
    unfold encH; rw [this]
  | n + 1, 0, i, _, h => by
    have : its[i]? = none := List.getElem?_eq_none (by omega)
    unfold encH; rw [this]
  | n + 1, m + 1, i, hn, hm => by
    unfold encH
    cases hit : its[i]? with
    | none => rfl
    | some it =>
      have e : (kidsFrom its i 0).flatMap (encH H its n) = (kidsFrom its i 0).flatMap (encH H its m) := flatMap_eq (fun j hj => by
        obtain ⟨h1, h2⟩ := kid_later hU hj
        exact encH_fuel H hU n m j (by omega) (by omega))
      simp only [e]

/-- All in an item. -/
def cont (H : It → Nat → List Int) (its : List It) (i : Nat) (it : It) : List Int := it.z ++ (kidsFrom its i 0).flatMap (enc H its)

theorem enc_eq (H : It → Nat → List Int) {its : List It} (hU : UpOk its its.length) {i : Nat} {it : It} (hit : its[i]? = some it) : enc H its i = H it (cont H its i it).length ++ cont H its i it := by
  have hl := (List.getElem?_eq_some_iff.1 hit).1
  obtain ⟨m, hm⟩ : ∃ m, its.length = m + 1 := ⟨its.length - 1, by omega⟩
  have e : (kidsFrom its i 0).flatMap (encH H its m) = (kidsFrom its i 0).flatMap (enc H its) := flatMap_eq (fun j hj => by
    obtain ⟨h1, h2⟩ := kid_later hU hj
    exact encH_fuel H hU m its.length j (by omega) (by omega))
  have : enc H its i = encH H its (m + 1) i := by unfold enc; rw [hm]
  rw [this]
  show (match its[i]? with | none => [] | some it => _) = _
  rw [hit]
  simp only [e]
  rfl

/-- The parts of an item from a place on. -/
def eFrom (H : It → Nat → List Int) (its : List It) (x k : Nat) : List Int := (kidsFrom its x k).flatMap (enc H its)

/-- The items from a place on, each with its head. -/
def dN (H : It → Nat → List Int) (its : List It) : Nat → Nat → List Int
  | 0, _ => []
  | n + 1, k => (match its[k]? with
    | none => []
    | some it => H it (cont H its k it).length ++ it.z) ++ dN H its n (k + 1)

def dFrom (H : It → Nat → List Int) (its : List It) (k : Nat) : List Int := dN H its (its.length - k) k

theorem dFrom_end (H : It → Nat → List Int) (its : List It) (k : Nat) (h : its.length ≤ k) : dFrom H its k = [] := by
  unfold dFrom; rw [Nat.sub_eq_zero_of_le h]; rfl

theorem dFrom_step (H : It → Nat → List Int) {its : List It} {k : Nat} {it : It} (hit : its[k]? = some it) : dFrom H its k = H it (cont H its k it).length ++ it.z ++ dFrom H its (k + 1) := by
  have hl := (List.getElem?_eq_some_iff.1 hit).1
  unfold dFrom
  rw [show its.length - k = (its.length - (k + 1)) + 1 by omega]
  show (match its[k]? with | none => [] | some it => _) ++ _ = _
  rw [hit]

theorem IsWay.suffix {its : List It} {q : Nat} : ∀ {ws : List Nat} {a : Int}, IsWay its a ws → q ∈ ws → ∃ pre post, ws = pre ++ q :: post ∧ IsWay its (q : Int) (q :: post)
  | [], _, _, h => by simp at h
  | k :: r, a, hw, h => by
    obtain ⟨rfl, it, hit, hge, hlt, hr⟩ := hw
    rcases List.mem_cons.1 h with e | e
    · subst e
      exact ⟨[], r, rfl, rfl, it, hit, hge, hlt, hr⟩
    · obtain ⟨pre, post, e1, e2⟩ := hr.suffix e
      exact ⟨k :: pre, post, by rw [e1]; rfl, e2⟩

/-- A way falls. -/
theorem IsWay.falls {its : List It} : ∀ {ws : List Nat} {a : Int}, IsWay its a ws → ∀ x ∈ ws, (x : Int) ≤ a
  | [], _, _, _, h => by simp at h
  | k :: r, a, hw, x, h => by
    obtain ⟨rfl, it, hit, hge, hlt, hr⟩ := hw
    rcases List.mem_cons.1 h with e | e
    · omega
    · have := hr.falls x e; omega

theorem IsWay.apart {its : List It} : ∀ {pre : List Nat} {q : Nat} {post : List Nat} {a : Int}, IsWay its a (pre ++ q :: post) → (∀ x ∈ pre, q < x) ∧ ∀ x ∈ post, x < q
  | [], q, post, a, hw => by
    obtain ⟨rfl, it, hit, hge, hlt, hr⟩ := hw
    exact ⟨fun x h => by simp at h, fun x h => by have := hr.falls x h; omega⟩
  | k :: pre, q, post, a, hw => by
    obtain ⟨rfl, it, hit, hge, hlt, hr⟩ := hw
    obtain ⟨h1, h2⟩ := IsWay.apart hr
    refine ⟨fun x h => ?_, h2⟩
    rcases List.mem_cons.1 h with e | e
    · have := hr.falls q (by simp); omega
    · exact h1 x e

theorem IsWay.unique {its : List It} {a : Int} : ∀ {xs ys : List Nat}, IsWay its a xs → IsWay its a ys → xs = ys := by
  intro xs ys h1 h2
  have ha := h1.ge
  have e1 := h1.fuel (n := (a + 1).toNat) (by omega)
  have e2 := h2.fuel (n := (a + 1).toNat) (by omega)
  rw [← e1, ← e2]

/-- Items in order: each one's parent is on the way up from the one ahead. -/
def LineOk (its : List It) : Prop := ∀ (k : Nat) (it : It), 0 < k → its[k]? = some it → it.p.toNat ∈ upL its ((k : Int) - 1)

theorem way_at {its : List It} (hU : UpOk its its.length) {k : Nat} (hk : k < its.length) : IsWay its (k : Int) (upL its (k : Int)) := by
  obtain ⟨xs, hx⟩ := hU.way (Nat.le_refl _) k hk
  rw [hx.up (by omega)]; exact hx

/-- On ways from later places nothing ahead of k is met but what the way from k's parent has. -/
theorem way_later {its : List It} (hU : UpOk its its.length) (hL : LineOk its) {k q : Nat} {post : List Nat} {it : It} (hit : its[k]? = some it) (hq : it.p = (q : Int)) (hw : IsWay its (q : Int) (q :: post)) :
    ∀ (n : Nat), k + n < its.length → ∀ x ∈ upL its ((k + n : Nat) : Int), x < k → x ∈ q :: post
  | 0, hn, x, hx, hxk => by
    have h1 := way_at hU (k := k) (by omega)
    have h2 : IsWay its (k : Int) (k :: q :: post) := by
      have hkl := (List.getElem?_eq_some_iff.1 hit).1
      obtain ⟨u0, u1⟩ := hU k it hkl hit
      have : it.p < k := by rcases Nat.eq_zero_or_pos k with e | e; have := u0 e; omega; exact (u1 e).2
      exact ⟨rfl, it, hit, by omega, this, by rw [hq]; exact hw⟩
    rw [show ((k + 0 : Nat) : Int) = (k : Int) by simp, h1.unique h2] at hx
    rcases List.mem_cons.1 hx with e | e
    · omega
    · exact e
  | n + 1, hn, x, hx, hxk => by
    have ih := way_later hU hL hit hq hw n (by omega)
    obtain ⟨jt, hjt⟩ : ∃ jt, its[k + (n + 1)]? = some jt := ⟨_, List.getElem?_eq_getElem hn⟩
    have hline := hL (k + (n + 1)) jt (by omega) hjt
    have e1 : ((k + (n + 1) : Nat) : Int) - 1 = ((k + n : Nat) : Int) := by omega
    rw [e1] at hline
    obtain ⟨pre, post', es, hs⟩ := (way_at hU (k := k + n) (by omega)).suffix hline
    obtain ⟨u0, u1⟩ := hU _ jt hn hjt
    have hjp := u1 (by omega)
    have hw2 : IsWay its ((k + (n + 1) : Nat) : Int) ((k + (n + 1)) :: jt.p.toNat :: post') := ⟨rfl, jt, hjt, by omega, hjp.2, by
      rw [show ((jt.p.toNat : Nat) : Int) = jt.p by omega] at hs; exact hs⟩
    rw [(way_at hU hn).unique hw2] at hx
    rcases List.mem_cons.1 hx with e | e
    · omega
    · exact ih x (by rw [es]; exact List.mem_append.2 (.inr e)) hxk

set_option maxHeartbeats 400000 in
/-- The items from a place on are the parts, from it on, of all on the way up from the place ahead. -/
theorem suffix_eq (H : It → Nat → List Int) {its : List It} (hU : UpOk its its.length) (hL : LineOk its) : ∀ (n k : Nat), k + n = its.length → 0 < k → dFrom H its k = (upL its ((k : Int) - 1)).flatMap (fun x => eFrom H its x k)
  | 0, k, h, h0 => by
    rw [dFrom_end H its k (by omega)]
    symm
    rw [List.flatMap_eq_nil_iff]
    intro x _
    unfold eFrom
    rw [kidsFrom_end its _ k (by omega)]; rfl
  | n + 1, k, h, h0 => by
    have hk : k < its.length := by omega
    have ih := suffix_eq H hU hL n (k + 1) (by omega) (by omega)
    obtain ⟨it, hit⟩ : ∃ it, its[k]? = some it := ⟨_, List.getElem?_eq_getElem hk⟩
    obtain ⟨_, u1⟩ := hU k it hk hit
    obtain ⟨p0, p1⟩ := u1 h0
    obtain ⟨q, hq⟩ : ∃ q : Nat, it.p = (q : Int) := ⟨it.p.toNat, by omega⟩
    have hqk : q < k := by omega
    have hline := hL k it h0 hit
    rw [hq, Int.toNat_natCast] at hline
    have hwk : IsWay its ((k : Int) - 1) (upL its ((k : Int) - 1)) := by
      have := way_at hU (k := k - 1) (by omega)
      rwa [show ((k - 1 : Nat) : Int) = (k : Int) - 1 by omega] at this
    obtain ⟨pre, post, es, hs⟩ := hwk.suffix hline
    have hap : (∀ x ∈ pre, q < x) ∧ ∀ x ∈ post, x < q := IsWay.apart (by rw [← es]; exact hwk)
    have hw2 : IsWay its (k : Int) (k :: q :: post) := ⟨rfl, it, hit, by omega, p1, by rw [hq]; exact hs⟩
    have hpk : pOf its k = (q : Int) := by rw [pOf_some hit, hq]
    have e1 : upL its (((k + 1 : Nat) : Int) - 1) = k :: q :: post := by
      rw [show ((k + 1 : Nat) : Int) - 1 = (k : Int) by omega]
      exact (way_at hU hk).unique hw2
    rw [e1] at ih
    have hpre : ∀ x ∈ pre, eFrom H its x k = [] := by
      intro x hx
      unfold eFrom
      rw [kidsFrom_nil (fun j hj1 hj2 hp => ?_)]; rfl
      have hxq := hap.1 x hx
      have hxk : x < k := by have := hwk.falls x (by rw [es]; exact List.mem_append.2 (.inl hx)); omega
      by_cases e : j = k
      · subst e; rw [hpk] at hp; omega
      · obtain ⟨jt, hjt⟩ : ∃ jt, its[j]? = some jt := ⟨_, List.getElem?_eq_getElem hj2⟩
        have hjl := hL j jt (by omega) hjt
        rw [pOf_some hjt] at hp
        rw [hp, Int.toNat_natCast, show (j : Int) - 1 = ((k + (j - 1 - k) : Nat) : Int) by omega] at hjl
        have hm := way_later hU hL hit hq hs (j - 1 - k) (by omega) x hjl hxk
        rcases List.mem_cons.1 hm with e' | e'
        · omega
        · have := hap.2 x e'; omega
    have hpost : post.flatMap (fun x => eFrom H its x k) = post.flatMap (fun x => eFrom H its x (k + 1)) := flatMap_eq (fun x hx => by
      have := hap.2 x hx
      unfold eFrom
      rw [kidsFrom_no hk (by rw [hpk]; omega)])
    have hqe : eFrom H its q k = enc H its k ++ eFrom H its q (k + 1) := by
      unfold eFrom
      rw [kidsFrom_yes hk hpk, List.flatMap_cons]
    have hke : cont H its k it = it.z ++ eFrom H its k (k + 1) := by
      unfold cont eFrom
      rw [kidsFrom_skip (k + 1) 0 (by omega) (by omega) (fun j _ hj hp => ?_)]
      obtain ⟨jt, hjt⟩ : ∃ jt, its[j]? = some jt := ⟨_, List.getElem?_eq_getElem (by omega)⟩
      rw [pOf_some hjt] at hp
      obtain ⟨v0, v1⟩ := hU j jt (by omega) hjt
      rcases Nat.eq_zero_or_pos j with e | e
      · have := v0 e; omega
      · have := v1 e; omega
    rw [dFrom_step H hit, ih, es]
    simp only [List.flatMap_append, List.flatMap_cons]
    rw [List.flatMap_eq_nil_iff.2 hpre, hpost, hqe, enc_eq H hU hit, hke]
    simp [List.append_assoc]

theorem cont_eq (H : It → Nat → List Int) {its : List It} (hU : UpOk its its.length) {k : Nat} {it : It} (hit : its[k]? = some it) : cont H its k it = it.z ++ eFrom H its k (k + 1) := by
  have hk := (List.getElem?_eq_some_iff.1 hit).1
  unfold cont eFrom
  rw [kidsFrom_skip (k + 1) 0 (by omega) (by omega) (fun j _ hj hp => ?_)]
  obtain ⟨jt, hjt⟩ : ∃ jt, its[j]? = some jt := ⟨_, List.getElem?_eq_getElem (by omega)⟩
  rw [pOf_some hjt] at hp
  obtain ⟨v0, v1⟩ := hU j jt (by omega) hjt
  rcases Nat.eq_zero_or_pos j with e | e
  · have := v0 e; omega
  · have := v1 e; omega

/-- All items in order are the first one with all in it. -/
theorem all_eq (H : It → Nat → List Int) {its : List It} (hU : UpOk its its.length) (hL : LineOk its) (h0 : 0 < its.length) : dFrom H its 0 = enc H its 0 := by
  obtain ⟨it, hit⟩ : ∃ it, its[0]? = some it := ⟨_, List.getElem?_eq_getElem h0⟩
  obtain ⟨u0, _⟩ := hU 0 it h0 hit
  have hw : IsWay its ((0 : Nat) : Int) [0] := ⟨rfl, it, hit, by have := u0 rfl; omega, by have := u0 rfl; omega, u0 rfl⟩
  have e1 : upL its (((1 : Nat) : Int) - 1) = [0] := (way_at hU h0).unique hw
  have hs := suffix_eq H hU hL (its.length - 1) 1 (by omega) (by omega)
  rw [e1] at hs
  rw [dFrom_step H hit, enc_eq H hU hit, cont_eq H hU hit, hs]
  simp [List.append_assoc]

end Go.Proofs.YtnmbdannipebnaaGreatDoor

/- What is proved here: plain facts on items without a fault that are written as bytes: the program's heads and the model's give the same bytes, or both give more than 1200; no program is named. -/
namespace Go.Proofs.YtnmbdannipebnaaGreatDoor
open Go.RowKit
set_option linter.unusedVariables false
set_option maxRecDepth 100000

theorem fltFrom_zero (its : List It) : ∀ (r : List It) (k : Nat), fltFrom its k r = 0 → ∀ i it, r[i]? = some it → fltAt its (k + i) it = 0
  | [], _, _, i, it, h => by simp at h
  | a :: r, k, hz, i, it, h => by
    unfold fltFrom at hz
    split at hz
    · cases i with
      | zero => simp at h; subst h; assumption
      | succ i =>
        have := fltFrom_zero its r (k + 1) hz i it (by simpa using h)
        rwa [show k + 1 + i = k + (i + 1) by omega] at this
    · exact absurd hz (by assumption)

/-- Items without a fault. -/
structure NoFault (its : List It) : Prop where
  some : 0 < its.length
  few : its.length ≤ 200
  up : UpOk its its.length
  line : LineOk its
  small : ∀ it ∈ its, it.z.length ≤ 300
  empty : ∀ it ∈ its, it.l = true → it.z = []
  leaf : ∀ (k : Nat) (it : It), its[k]? = Option.some it → it.l = false → ∀ m, kidsFrom its (k : Int) m = []

theorem noFault_of {its : List It} (h : itemsFlt its = 0) : NoFault its := by
  unfold itemsFlt at h
  split at h
  · omega
  · rename_i hlen
    have all : ∀ (i : Nat) (it : It), its[i]? = some it → fltAt its i it = 0 := fun i it hi => by
      have := fltFrom_zero its its 0 h i it hi
      rwa [Nat.zero_add] at this
    have hU : UpOk its its.length := fun j it _ hit => fltAt_up (all j it hit)
    have each : ∀ (k : Nat) (it : It), its[k]? = some it → (it.l = true → it.z = []) ∧ it.z.length ≤ 300 ∧ (0 < k → lAt its it.p.toNat = true ∧ it.p.toNat ∈ upL its ((k : Int) - 1)) := by
      intro k it hit
      have hz := all k it hit
      unfold fltAt at hz
      split at hz
      · omega
      · rename_i n1
        split at hz
        · omega
        · rename_i n2
          refine ⟨fun hl => ?_, by omega, fun hk => ?_⟩
          · have : ¬ 0 < it.z.length := fun hh => n1 ⟨hl, hh⟩
            exact List.length_eq_zero_iff.1 (by omega)
          · rw [if_neg (by omega)] at hz
            split at hz
            · omega
            · split at hz
              · assumption
              · omega
    refine ⟨by omega, by omega, hU, fun k it hk hit => ((each k it hit).2.2 hk).2, fun it hi => ?_, fun it hi => ?_, fun k it hit hl m => ?_⟩
    · obtain ⟨k, hk⟩ := List.getElem?_of_mem hi
      exact (each k it hk).2.1
    · obtain ⟨k, hk⟩ := List.getElem?_of_mem hi
      exact (each k it hk).1
    · apply kidsFrom_nil
      intro j _ hj hp
      obtain ⟨jt, hjt⟩ : ∃ jt, its[j]? = some jt := ⟨_, List.getElem?_eq_getElem hj⟩
      rw [pOf_some hjt] at hp
      obtain ⟨u0, u1⟩ := hU j jt hj hjt
      have hj0 : 0 < j := by rcases Nat.eq_zero_or_pos j with e | e; have := u0 e; omega; exact e
      have := ((each j jt hjt).2.2 hj0).1
      rw [hp, Int.toNat_natCast] at this
      unfold lAt at this
      rw [hit] at this
      simp only at this
      rw [hl] at this
      cases this

theorem le_flatMap {α : Type} {l : List α} {f : α → List Int} {x : α} (h : x ∈ l) : (f x).length ≤ (l.flatMap f).length := by
  induction l with
  | nil => simp at h
  | cons a r ih =>
    rw [List.flatMap_cons, List.length_append]
    rcases List.mem_cons.1 h with e | e
    · subst e; omega
    · have := ih e; omega

theorem enc_ge_cont (H : It → Nat → List Int) {its : List It} (hU : UpOk its its.length) {i : Nat} {it : It} (hit : its[i]? = some it) : (cont H its i it).length ≤ (enc H its i).length := by
  rw [enc_eq H hU hit, List.length_append]; omega

theorem kid_le (H : It → Nat → List Int) {its : List It} {i j : Nat} {it : It} (h : j ∈ kidsFrom its (i : Int) 0) : (enc H its j).length ≤ (cont H its i it).length := by
  unfold cont
  rw [List.length_append]
  have := le_flatMap (f := enc H its) h
  omega

theorem enc_same {its : List It} (hU : UpOk its its.length) : ∀ (n i : Nat) (it : It), its.length ≤ i + n → its[i]? = some it → (cont hdS its i it).length ≤ 1200 → enc hdI its i = enc hdS its i ∧ cont hdI its i it = cont hdS its i it
  | 0, i, it, hn, hit, _ => by have := (List.getElem?_eq_some_iff.1 hit).1; omega
  | n + 1, i, it, hn, hit, hc => by
    have e : (kidsFrom its i 0).flatMap (enc hdI its) = (kidsFrom its i 0).flatMap (enc hdS its) := flatMap_eq (fun j hj => by
      obtain ⟨h1, h2⟩ := kid_later hU hj
      obtain ⟨jt, hjt⟩ : ∃ jt, its[j]? = some jt := ⟨_, List.getElem?_eq_getElem h2⟩
      have hl := kid_le hdS (it := it) hj
      have hg := enc_ge_cont hdS hU hjt
      exact (enc_same hU n j jt (by omega) hjt (by omega)).1)
    have ec : cont hdI its i it = cont hdS its i it := by unfold cont; rw [e]
    exact ⟨by rw [enc_eq hdI hU hit, enc_eq hdS hU hit, ec, hd_same it _ hc], ec⟩

theorem enc_great {its : List It} (hU : UpOk its its.length) : ∀ (n i : Nat) (it : It), its.length ≤ i + n → its[i]? = some it → 1200 < (cont hdS its i it).length → 1200 < (enc hdI its i).length
  | 0, i, it, hn, hit, _ => by have := (List.getElem?_eq_some_iff.1 hit).1; omega
  | n + 1, i, it, hn, hit, hc => by
    by_cases hall : ∀ j ∈ kidsFrom its (i : Int) 0, ∀ jt, its[j]? = some jt → (cont hdS its j jt).length ≤ 1200
    · have e : (kidsFrom its i 0).flatMap (enc hdI its) = (kidsFrom its i 0).flatMap (enc hdS its) := flatMap_eq (fun j hj => by
        obtain ⟨h1, h2⟩ := kid_later hU hj
        obtain ⟨jt, hjt⟩ : ∃ jt, its[j]? = some jt := ⟨_, List.getElem?_eq_getElem h2⟩
        exact (enc_same hU its.length j jt (by omega) hjt (hall j hj jt hjt)).1)
      have ec : cont hdI its i it = cont hdS its i it := by unfold cont; rw [e]
      have := enc_ge_cont hdI hU hit
      rw [ec] at this
      omega
    · have : ∃ j, j ∈ kidsFrom its (i : Int) 0 ∧ ∃ jt, its[j]? = some jt ∧ 1200 < (cont hdS its j jt).length := by
        refine Classical.byContradiction fun hno => hall fun j hj jt hjt => ?_
        refine Nat.le_of_not_lt fun hlt => hno ⟨j, hj, jt, hjt, hlt⟩
      obtain ⟨j, hj, jt, hjt, hlt⟩ := this
      have h1 := (kid_later hU hj).1
      have h2 := enc_great hU n j jt (by omega) hjt hlt
      have h3 := kid_le hdI (it := it) hj
      have h4 := enc_ge_cont hdI hU hit
      omega

theorem dN_le (H : It → Nat → List Int) (hH : ∀ it n, (H it n).length ≤ 8) {its : List It} (hs : ∀ it ∈ its, it.z.length ≤ 300) : ∀ n k, (dN H its n k).length ≤ 308 * n
  | 0, _ => by simp [dN]
  | n + 1, k => by
    unfold dN
    rw [List.length_append]
    have ih := dN_le H hH hs n (k + 1)
    cases hit : its[k]? with
    | none => simp; omega
    | some it =>
      simp only [List.length_append]
      have h1 := hH it (cont H its k it).length
      have h2 := hs it (List.mem_of_getElem? hit)
      omega

theorem kids_later_le (H : It → Nat → List Int) {its : List It} (x : Nat) : ∀ (m k : Nat), k ≤ m → m ≤ its.length → (eFrom H its x m).length ≤ (eFrom H its x k).length
  | 0, k, h, _ => by
    obtain rfl : k = 0 := by omega
    exact Nat.le_refl _
  | m + 1, k, h, hm => by
    by_cases e : k = m + 1
    · subst e; exact Nat.le_refl _
    · refine Nat.le_trans ?_ (kids_later_le H x m k (by omega) (by omega))
      unfold eFrom
      by_cases hp : pOf its m = (x : Int)
      · rw [kidsFrom_yes (by omega) hp, List.flatMap_cons, List.length_append]; omega
      · rw [kidsFrom_no (by omega) hp]; exact Nat.le_refl _

theorem eFrom_le (H : It → Nat → List Int) (hH : ∀ it n, (H it n).length ≤ 8) {its : List It} (N : NoFault its) (i k : Nat) (hi : i < its.length) (hk : i < k) (hkl : k ≤ its.length) : (eFrom H its i k).length ≤ 61600 := by
  have h1 := kids_later_le H (its := its) i k (i + 1) (by omega) hkl
  have h2 := suffix_eq H N.up N.line (its.length - (i + 1)) (i + 1) (by omega) (by omega)
  have hm : i ∈ upL its (((i + 1 : Nat) : Int) - 1) := by
    rw [show ((i + 1 : Nat) : Int) - 1 = (i : Int) by omega]
    have hw := way_at N.up hi
    generalize upL its (i : Int) = ws at hw
    cases ws with
    | nil => have : (i : Int) = -1 := hw; omega
    | cons a r => obtain ⟨e, _⟩ := hw; simp; omega
  have h3 := le_flatMap (f := fun x => eFrom H its x (i + 1)) hm
  rw [← h2] at h3
  have h4 := dN_le H hH N.small (its.length - (i + 1)) (i + 1)
  have h5 := N.few
  have : (dFrom H its (i + 1)).length ≤ 308 * (its.length - (i + 1)) := h4
  omega

/-- What EncodeItems answers: its code and its bytes. -/
def enCode (its : List It) : Int := if itemsFlt its = 0 then (if 1200 < (enc hdS its 0).length then 2 else 0) else itemsFlt its
def enBytes (its : List It) : List Int := if itemsFlt its = 0 ∧ (enc hdS its 0).length ≤ 1200 then enc hdS its 0 else []

/-- The program's bytes: the same, or both too many. -/
theorem enc_tie {its : List It} (N : NoFault its) : (1200 < (enc hdS its 0).length → 1200 < (dFrom hdI its 0).length) ∧ ((enc hdS its 0).length ≤ 1200 → dFrom hdI its 0 = enc hdS its 0) := by
  have h0 := N.some
  obtain ⟨it, hit⟩ : ∃ it, its[0]? = some it := ⟨_, List.getElem?_eq_getElem h0⟩
  rw [all_eq hdI N.up N.line h0]
  by_cases hc : (cont hdS its 0 it).length ≤ 1200
  · have := (enc_same N.up its.length 0 it (by omega) hit hc).1
    rw [this]
    exact ⟨fun h => h, fun _ => rfl⟩
  · have h1 := enc_great N.up its.length 0 it (by omega) hit (by omega)
    have h2 := enc_ge_cont hdS N.up hit
    exact ⟨fun _ => h1, fun h => by omega⟩

end Go.Proofs.YtnmbdannipebnaaGreatDoor
