/- What is proved here: plain facts on items written as bytes: told from the first one down, each with all in it, or in their order, each with its head; no program is named. -/
import Derived.Test.YtdmcmlcmgbbclaaGreatJ20
import Derived.Test.YtdmcmlcmgbbclaaGreatJ16
import Derived.Test.YtdmcmlcmgbbclaaGreatChecked
import Derived.Test.YtdmcmlcmgbbclaaGreatJ8
import Derived.WalkKit
import Derived.WalkLawsBesides
import Derived.WalkSmall
import Derived.WalkSpells
import Derived.KernelRfl
import Derived.Test.YtdmcmlcmgbbclaaGreatJ4
import Derived.Test.YtdmcmlcmgbbclaaGreatJ1
import Derived.Test.YtdmcmlcmgbbclaaGreatJ19
import Derived.Laws.AppendOwnNone
import Derived.Lib.SliceRun
import Derived.Test.YtdmcmlcmgbbclaaGreatJ7
import Derived.Test.YtdmcmlcmgbbclaaGreatJ3
import Derived.Maps.AppendAt
namespace Go.Proofs.YtdmcmlcmgbbclaaGreat
set_option linter.unusedVariables false
set_option linter.unusedSimpArgs false
open Go.RowKit
set_option maxRecDepth 100000

/-- The head of an item that has n bytes in it: in the model, and in the program, which has none for more than 1200. -/
def hdS (it : It) (n : Nat) : List Int := if it.l = false ∧ n = 1 ∧ it.z.getD 0 0 < 128 then [] else headL it.l n
def hdI (it : It) (n : Nat) : List Int := if it.l = false ∧ n = 1 ∧ it.z.getD 0 0 < 128 then [] else hdBytes it.l n

/-- The parent of a place; that of none is -2. -/
def pOf (its : List It) (j : Nat) : Int := match its[j]? with
 | some it => it.p
 | none => -2

/-- The places from k on, n of them, whose parent is x. -/
def kidsN (its : List It) (x : Int) : Nat → Nat → List Nat
 | 0, _ => []
 | n + 1, k => (if pOf its k = x then [k] else []) ++ kidsN its x n (k + 1)

def kidsFrom (its : List It) (x : Int) (k : Nat) : List Nat := kidsN its x (its.length - k) k

/-- An item with all in it, its head told by H. -/
def encH (H : It → Nat → List Int) (its : List It) : Nat → Nat → List Int
 | 0, _ => []
 | n + 1, i => match its[i]? with
  | none => []
  | some it => H it (it.z ++ (kidsFrom its i 0).flatMap (encH H its n)).length ++ (it.z ++ (kidsFrom its i 0).flatMap (encH H its n))

def enc (H : It → Nat → List Int) (its : List It) (i : Nat) : List Int := encH H its its.length i

/-- All in an item. -/
def cont (H : It → Nat → List Int) (its : List It) (i : Nat) (it : It) : List Int := it.z ++ (kidsFrom its i 0).flatMap (enc H its)

/-- The parts of an item from a place on. -/
def eFrom (H : It → Nat → List Int) (its : List It) (x k : Nat) : List Int := (kidsFrom its x k).flatMap (enc H its)

/-- The items from a place on, each with its head. -/
def dN (H : It → Nat → List Int) (its : List It) : Nat → Nat → List Int
 | 0, _ => []
 | n + 1, k => (match its[k]? with
  | none => []
  | some it => H it (cont H its k it).length ++ it.z) ++ dN H its n (k + 1)

def dFrom (H : It → Nat → List Int) (its : List It) (k : Nat) : List Int := dN H its (its.length - k) k

theorem IsWay.suffix {its : List It} {q : Nat} : ∀ {ws : List Nat} {a : Int}, IsWay its a ws → q ∈ ws → ∃ pre post, ws = pre ++ q :: post ∧ IsWay its (q : Int) (q :: post)
 | [], _, _, h => by simp at h
 | k :: r, a, hw, h => by
  obtain ⟨rfl, it, hit, hge, hlt, hr⟩ := hw
  rcases List.mem_cons.1 h with e | e
  · subst e
    exact ⟨[], r, rfl, rfl, it, hit, hge, hlt, hr⟩
  · obtain ⟨pre, post, e1, e2⟩ := hr.suffix e
    exact ⟨k :: pre, post, by rw [e1]; rfl, e2⟩

/-- A way falls. -/
theorem IsWay.falls {its : List It} : ∀ {ws : List Nat} {a : Int}, IsWay its a ws → ∀ x ∈ ws, (x : Int) ≤ a
 | [], _, _, _, h => by simp at h
 | k :: r, a, hw, x, h => by
  obtain ⟨rfl, it, hit, hge, hlt, hr⟩ := hw
  rcases List.mem_cons.1 h with e | e
  · omega
  · have := hr.falls x e; omega

theorem IsWay.apart {its : List It} : ∀ {pre : List Nat} {q : Nat} {post : List Nat} {a : Int}, IsWay its a (pre ++ q :: post) → (∀ x ∈ pre, q < x) ∧ ∀ x ∈ post, x < q
 | [], q, post, a, hw => by
  obtain ⟨rfl, it, hit, hge, hlt, hr⟩ := hw
  exact ⟨fun x h => by simp at h, fun x h => by have := hr.falls x h; omega⟩
 | k :: pre, q, post, a, hw => by
  obtain ⟨rfl, it, hit, hge, hlt, hr⟩ := hw
  obtain ⟨h1, h2⟩ := IsWay.apart hr
  refine ⟨fun x h => ?_, h2⟩
  rcases List.mem_cons.1 h with e | e
  · have := hr.falls q (by simp); omega
  · exact h1 x e

/-- Items in order: each one's parent is on the way up from the one ahead. -/
def LineOk (its : List It) : Prop := ∀ (k : Nat) (it : It), 0 < k → its[k]? = some it → it.p.toNat ∈ upL its ((k : Int) - 1)

set_option maxRecDepth 100000

/-- Items without a fault. -/
structure NoFault (its : List It) : Prop where
 some : 0 < its.length
 few : its.length ≤ 200
 up : UpOk its its.length
 line : LineOk its
 small : ∀ it ∈ its, it.z.length ≤ 300
 empty : ∀ it ∈ its, it.l = true → it.z = []
 leaf : ∀ (k : Nat) (it : It), its[k]? = Option.some it → it.l = false → ∀ m, kidsFrom its (k : Int) m = []

/-- What EncodeItems answers: its code and its bytes. -/
def enCode (its : List It) : Int := if itemsFlt its = 0 then (if 1200 < (enc hdS its 0).length then 2 else 0) else itemsFlt its
def enBytes (its : List It) : List Int := if itemsFlt its = 0 ∧ (enc hdS its 0).length ≤ 1200 then enc hdS its 0 else []

set_option maxRecDepth 100000

/-- The head of bytes. -/
def pieceHd (z : List Int) : List Int := if z.length = 1 ∧ z.getD 0 0 < 128 then [] else headL false z.length

set_option maxRecDepth 100000

set_option maxRecDepth 100000

set_option maxRecDepth 100000

/-- The things of a row of a kind. -/
theorem RowOk.elems {α β : Type} (e0 : β) {K : Kd α β} {w : World} {s : Sl} {xs : List α} (h : RowOk K w s xs) :
    ∃ es : List β, es.length = xs.length ∧ (∀ b off, s.a = some ⟨b, off, none⟩ → ∀ j u, (flatV K es xs)[j]? = some u → w.cell? ⟨b, off + j, none⟩ = some u) ∧ ∀ (i : Nat) (e : β) (x : α), es[i]? = some e → xs[i]? = some x → K.Ok w e x := by
 have key : ∀ i : Nat, ∃ e : β, ∀ x, xs[i]? = some x → (∀ b off, s.a = some ⟨b, off, none⟩ → ∀ j v, (K.vals e x)[j]? = some v → w.cell? ⟨b, off + i * K.m + j, none⟩ = some v) ∧ K.Ok w e x := fun i => by
  cases hz : xs[i]? with
  | none => exact ⟨e0, fun z hz' => by cases hz'⟩
  | some x =>
   have hi := (List.getElem?_eq_some_iff.1 hz).1
   obtain ⟨b, off, ha, _, k⟩ := h.pos (by rw [h.len]; omega)
   obtain ⟨e, q, ho⟩ := k i x hz
   refine ⟨e, fun x' hx' => ?_⟩
   obtain rfl := Option.some.inj hx'
   refine ⟨fun b' off' ha' => ?_, ho⟩
   rw [ha] at ha'
   simp only [Option.some.injEq, Addr.mk.injEq, and_true] at ha'
   obtain ⟨rfl, rfl⟩ := ha'
   exact q
 obtain ⟨f, hf⟩ := Classical.axiomOfChoice key
 have hes : ∀ i, i < xs.length → ((List.range xs.length).map f)[i]? = some (f i) := fun i hi => by rw [List.getElem?_map, List.getElem?_range hi]; rfl
 refine ⟨(List.range xs.length).map f, by simp, fun b off ha j u hu => ?_, fun i e x he hx => ?_⟩
 · -- by blocks of K.m
   have gen : ∀ (n : Nat), n ≤ xs.length → ∀ j u, (flatV K (((List.range xs.length).map f).drop n) (xs.drop n))[j]? = some u → w.cell? ⟨b, off + n * K.m + j, none⟩ = some u := by
    intro n
    induction hn : xs.length - n generalizing n with
    | zero =>
     intro hl j u hu
     rw [List.drop_eq_nil_of_le (by omega : xs.length ≤ n)] at hu
     cases ((List.range xs.length).map f).drop n <;> simp [flatV] at hu
    | succ m ih =>
     intro hl j u hu
     have hlt : n < xs.length := by omega
     rw [List.drop_eq_getElem_cons hlt, List.drop_eq_getElem_cons (by simpa using hlt : n < ((List.range xs.length).map f).length)] at hu
     have e1 : ((List.range xs.length).map f)[n]'(by simpa using hlt) = f n := by simp
     rw [e1] at hu
     change (K.vals (f n) xs[n] ++ flatV K _ _)[j]? = some u at hu
     by_cases hj : j < K.m
     · rw [List.getElem?_append_left (by rw [K.len]; exact hj)] at hu
       exact (hf n _ (List.getElem?_eq_getElem hlt)).1 b off ha j u hu
     · rw [List.getElem?_append_right (by rw [K.len]; omega), K.len] at hu
       have := ih (n + 1) (by omega) (by omega) (j - K.m) u hu
       rw [show off + (n + 1) * K.m + (j - K.m) = off + n * K.m + j by rw [Nat.succ_mul]; omega] at this
       exact this
   have := gen 0 (Nat.zero_le _) j u (by simpa using hu)
   simpa using this
 · have hi := (List.getElem?_eq_some_iff.1 hx).1
   rw [hes i hi] at he
   obtain rfl := Option.some.inj he
   exact (hf i x hx).2

theorem flatV_len {α β : Type} (K : Kd α β) : ∀ (es : List β) (xs : List α), es.length = xs.length → (flatV K es xs).length = xs.length * K.m
 | [], [], _ => by simp [flatV]
 | e :: es, x :: xs, h => by
  show (K.vals e x ++ flatV K es xs).length = _
  rw [List.length_append, K.len, flatV_len K es xs (by simpa using h), List.length_cons, Nat.succ_mul]
  omega
 | [], _ :: _, h => by simp at h
 | _ :: _, [], h => by simp at h

theorem rc_cells {es : List RcS} {rs : List Rc} : ∀ u ∈ flatV rcK es rs, u.oneCell' = true := by
 induction es generalizing rs with
 | nil => intro u hu; simp [flatV] at hu
 | cons e es ih =>
  cases rs with
  | nil => intro u hu; simp [flatV] at hu
  | cons r rs =>
   intro u hu
   have hu' : u ∈ rcK.vals e r ++ flatV rcK es rs := hu
   rcases List.mem_append.1 hu' with h | h
   · have hh : u = .int .i64 r.1 ∨ u = .slice e.2.a e.2.n e.2.c := by simpa [rcK, pairK, intK, bytesK] using h
     rcases hh with rfl | rfl <;> rfl
   · exact ih u h

set_option maxHeartbeats 2000000 in
theorem cloneRc_any (s : Sl) (rs : List Rc) (w : World) (h : RowOk rcK w s rs) (hl : s.n ≤ 1048576) :
    Calls Tryz.prog 124 #[.slice s.a s.n s.c] w fun e w' => ∃ (a' : Option Addr) (c' : Nat) (es : List RcS), e = .returned (.slice a' s.n c') ∧ es.length = rs.length ∧
     w'.ownsRow w.heap.size 93 2 (.slice a' s.n c') s.n (flatV rcK es rs) ∧ (∀ (i : Nat) (e : RcS) (x : Rc), es[i]? = some e → rs[i]? = some x → rcK.Ok w e x) ∧ Below w.heap.size w w' := by
 obtain ⟨i0, hi, hz0, hz1, hz2⟩ := info_parts infoRc
 have qT : ∀ (w : World) (a : Option Addr) (n c n' c' : Nat), (binOp .eql 34 (.slice a n c) (.slice none n' c')).run Tryz.prog w = .ok (.bool a.isNone) w := fun w a n c n' c' => Lib.run_eql_slice_nil w _ _ a n c n' c' Tryz.underlying34
 obtain ⟨es, s1, s2, s3⟩ := h.elems (e0 := ((), ⟨none, 0, 0⟩))
 have hlen := h.len
 obtain ⟨a, len, cap⟩ := s
 simp only at hlen hl s2 ⊢
 cases a with
 | none =>
  have h0 : len = 0 := by have := h.room; have := h.nil rfl; simp only at *; omega
  subst h0
  obtain rfl : rs = [] := List.length_eq_zero_iff.1 hlen.symm
  clear h s2 s3 s1 hl hlen es
  go_enter Tryz.func124, Tryz.ntmps124
  go_wp2_with fail
  go_ret
  exact ⟨none, 0, [], rfl, rfl, World.ownsRow_nil _ _ _ _, fun i e z he => by simp at he, Below.refl _ _⟩
 | some x =>
  have hown0 : (w.alloc (.cells #[] 93)).ownsRow w.heap.size 93 2 (.slice (some ⟨w.heap.size, 0, none⟩) 0 0) 0 [] := World.ownsRow_lit w #[] 0 (Nat.le_refl _) (by unfold maxLen; omega) rfl
  have hb := below_alloc w (.cells #[] 93)
  have hfl := flatV_len rcK es rs s1
  have s2' : ∀ j u, (flatV rcK es rs)[j]? = some u → (w.alloc (.cells #[] 93)).cell? (x.add j) = some u := fun j u hu => by
   have hj := (List.getElem?_eq_some_iff.1 hu).1
   rw [hfl] at hj
   have hp : 0 < len := by
    rcases Nat.eq_zero_or_pos len with h0 | hp
    · rw [← hlen, h0] at hj
      simp at hj
    · exact hp
   obtain ⟨b, off, e, _⟩ := h.pos hp
   have e' : x = ⟨b, off, none⟩ := Option.some.inj e
   subst e'
   have hc := s2 b off rfl j u hu
   rw [add_none]
   exact (hb.cell (lt_of_cell hc)).trans hc
  have HS2 := hide s2'
  have HS3 := hide s3
  have HB := hide hb
  have HFL := hide hfl
  have HLN := hide hlen
  clear h s2 s2' s3 hb hfl hlen
  go_enter Tryz.func124, Tryz.ntmps124
  go_wp2_with (at_builtin; refine wpList_append_own _ rfl _ _ 34 rfl w.heap.size 93 i0 (.agg #[.int .i64 0, .slice none 0 0]) 2 32 Tryz.underlying34 hi hz0 hz1 hz2 rfl (by decide) _ _ _ rfl hown0 x len cap (flatV rcK es rs) rfl ?c0 ?c1 ?c2 ?c3 ?c4 ?c5 ?_)
  try case c0 => first | (rw [unhide HFL, ← unhide HLN]; rfl) | (have := unhide HFL; have := unhide HLN; have e2 : rcK.m = 2 := rfl; omega)
  try case c1 => exact unhide HS2
  try case c2 => exact rc_cells
  try case c3 => unfold maxLen; omega
  try case c4 => omega
  try case c5 => simp
  intro v' w2 hown2 hgrow _
  obtain ⟨a2, cap2, hvv⟩ := own_shape hown2
  have hb2 : Below w.heap.size w w2 := (unhide HB).grown hgrow (unhide HB).size (fun g e => (hown0.lt g e).1)
  rw [hvv] at hown2
  rw [hvv]
  have HO := hide hown2
  have HB2 := hide hb2
  clear hown2 hb2 hgrow hvv hown0 HB
  go_wp2_with fail
  go_ret
  refine ⟨a2, cap2, es, ?_, s1, ?_, unhide HS3, unhide HB2⟩
  · simp
  · simpa using unhide HO

set_option maxRecDepth 100000

theorem rc_vals (e : RcS) (r : Rc) : rcK.vals e r = [.int .i64 r.1, .slice e.2.a e.2.n e.2.c] := rfl

theorem flat_set : ∀ (fs : List RcS) (rs : List Rc) (k : Nat) (e : Sl), k < fs.length → fs.length = rs.length → flatV rcK (fs.set k ((), e)) rs = (flatV rcK fs rs).set (k * 2 + 1) (.slice e.a e.n e.c)
 | [], _, k, e, h, _ => by simp at h
 | _ :: _, [], k, e, _, h => by simp at h
 | f :: fs, r :: rs, 0, e, _, _ => by
  show rcK.vals ((), e) r ++ flatV rcK fs rs = (rcK.vals f r ++ flatV rcK fs rs).set 1 _
  rw [rc_vals, rc_vals]
  rfl
 | f :: fs, r :: rs, k + 1, e, h, hl => by
  show rcK.vals f r ++ flatV rcK (fs.set k ((), e)) rs = (rcK.vals f r ++ flatV rcK fs rs).set ((k + 1) * 2 + 1) _
  rw [flat_set fs rs k e (by simpa using h) (by simpa using hl), rc_vals, List.set_append_right _ _ (by simp; omega)]
  congr 2
  simp
  omega

/-- Recents of which the first k lie in memory of their own. -/
def RcP (B : Nat) (wr : World) (d : Nat → Path) (p : Path) (s : Sl) (rs : List Rc) (es : List RcS) (k : Nat) : Prop :=
 ∃ fs : List RcS, fs.length = rs.length ∧ wr.ownsRow B 93 2 (.slice s.a s.n s.c) s.n (flatV rcK fs rs) ∧ (∀ x, s.a = some x → d x.block = p) ∧ (∀ i e x, i < k → fs[i]? = some e → rs[i]? = some x → rcK.Own wr B d (p ++ [i]) e x) ∧ ∀ i, k ≤ i → fs[i]? = es[i]?

theorem RcP.cell {B : Nat} {wr : World} {d : Nat → Path} {p : Path} {s : Sl} {rs : List Rc} {es : List RcS} {k : Nat} (h : RcP B wr d p s rs es k) (hn : s.n = rs.length) (hk : k < rs.length) {e : RcS} {r : Rc} (he : es[k]? = some e) (hr : rs[k]? = some r) :
    ∃ g, s.a = some ⟨g, 0, none⟩ ∧ wr.cell? ⟨g, k * 2, none⟩ = some (.int .i64 r.1) ∧ wr.cell? ⟨g, k * 2 + 1, none⟩ = some (.slice e.2.a e.2.n e.2.c) ∧ (∀ j, wr.frozen? ⟨g, j, none⟩ = false) ∧ B ≤ g ∧ g < wr.heap.size := by
 obtain ⟨fs, h1, h2, h3, h4, h5⟩ := h
 obtain ⟨g, cap, e', hb, hl⟩ := h2.form (by omega)
 simp only [Value.slice.injEq] at e'
 obtain ⟨ha, _, _⟩ := e'
 have hf : fs[k]? = some e := (h5 k (Nat.le_refl _)).trans he
 have o := OwnS.of h2
 have c0 := flatV_at rcK fs rs k 0 e r _ hf hr (by rw [rc_vals]; rfl)
 have c1 := flatV_at rcK fs rs k 1 e r _ hf hr (by rw [rc_vals]; rfl)
 have m2 : rcK.m = 2 := rfl
 rw [m2] at c0 c1
 refine ⟨g, ha, ?_, ?_, fun j => o.free ha j, hb, hl⟩
 · have := o.cell ha (j := k * 2) (by show k * 2 < s.n * 2; omega)
   rw [Nat.zero_add] at this
   exact this.trans c0
 · have := o.cell ha (j := k * 2 + 1) (by show k * 2 + 1 < s.n * 2; omega)
   rw [Nat.zero_add] at this
   exact this.trans c1

theorem RcP.step {B : Nat} {wr w2 : World} {d : Nat → Path} {p : Path} {s : Sl} {rs : List Rc} {es : List RcS} {k g : Nat} (h : RcP B wr d p s rs es k) (hk : k < rs.length) {r : Rc} (hr : rs[k]? = some r) (hr64 : in64 r.1) (hz : ∀ x ∈ r.2, 0 ≤ x ∧ x ≤ 255)
    (hB : B ≤ wr.heap.size) (ha : s.a = some ⟨g, 0, none⟩) {a1 : Option Addr} {n1 c1 : Nat} (ho : w2.ownsRow wr.heap.size 5 1 (.slice a1 n1 c1) n1 (r.2.map (Value.int .u8))) (hb : Below wr.heap.size wr w2) :
    RcP B (w2.setCell ⟨g, k * 2 + 1, none⟩ (.slice a1 n1 c1)) (fun q => if wr.heap.size ≤ q then (p ++ [k]) ++ [1] else d q) p s rs es (k + 1) := by
 obtain ⟨fs, h1, h2, h3, h4, h5⟩ := h
 obtain ⟨sa, sn, sc⟩ := s
 simp only at ha h2 h3
 subst ha
 have hgl : g < wr.heap.size := (h2.lt g rfl).2
 have hdg : d g = p := h3 _ rfl
 have hdo : ∀ q, q < wr.heap.size → (if wr.heap.size ≤ q then (p ++ [k]) ++ [1] else d q) = d q := fun q hq => if_neg (by omega)
 have keep : ∀ {i : Nat} {e : RcS} {x : Rc}, rcK.Own w2 B (fun q => if wr.heap.size ≤ q then (p ++ [k]) ++ [1] else d q) (p ++ [i]) e x → rcK.Own (w2.setCell ⟨g, k * 2 + 1, none⟩ (.slice a1 n1 c1)) B (fun q => if wr.heap.size ≤ q then (p ++ [k]) ++ [1] else d q) (p ++ [i]) e x := fun {i e x} q => rcK.frame q (fun g' a b c => heap_setCell_other w2 ⟨g, k * 2 + 1, none⟩ g' _ (fun ee => by
  have ee' : g' = g := ee
  subst ee'
  rw [hdo g' hgl, hdg] at c
  exact not_pre_self p i c))
 refine ⟨fs.set k ((), ⟨a1, n1, c1⟩), by simp [h1], ?_, fun x hx => ?_, fun i e x hi he hx => ?_, fun i hi => ?_⟩
 · rw [flat_set fs rs k ⟨a1, n1, c1⟩ (by omega) h1]
   exact ((own_below h2 hb (Nat.le_refl _)).stored (k * 2 + 1) (.slice a1 n1 c1)).1
 · obtain rfl := Option.some.inj hx
   show (if wr.heap.size ≤ g then _ else _) = _
   rw [if_neg (by omega)]
   exact hdg
 · by_cases hik : i < k
   · rw [List.getElem?_set_ne (by omega)] at he
     exact keep (rcK.ownBelow (rcK.recolNew (h4 i e x hik he hx) hdo) hb (Nat.le_refl _))
   · obtain rfl : i = k := by omega
     rw [List.getElem?_set_self (by omega)] at he
     obtain rfl := Option.some.inj he
     obtain rfl := Option.some.inj (hr.symm.trans hx)
     refine keep ⟨hr64, ⟨hz, ownsRow_base ho hB, fun y hy => ?_⟩⟩
     have hy' : a1 = some y := hy
     have l := (ho.lt y.block (by rw [hy']; rfl)).1
     show (if wr.heap.size ≤ y.block then _ else _) = _
     rw [if_pos l]
 · rw [List.getElem?_set_ne (by omega)]
   exact h5 i (by omega)

theorem RcP.below {B : Nat} {wr w2 : World} {d : Nat → Path} {p : Path} {s : Sl} {rs : List Rc} {es : List RcS} {k : Nat} (h : RcP B wr d p s rs es k) (hb : Below wr.heap.size wr w2) : RcP B w2 d p s rs es k := by
 obtain ⟨fs, h1, h2, h3, h4, h5⟩ := h
 exact ⟨fs, h1, own_below h2 hb (Nat.le_refl _), h3, fun i e x hi he hx => rcK.ownBelow (h4 i e x hi he hx) hb (Nat.le_refl _), h5⟩

set_option maxHeartbeats 4000000 in
theorem copyRecentsG_any (p : Path) (s : Sl) (rs : List Rc) (w : World) (h : RowOk rcK w s rs) (hl : s.n ≤ 1048576) (hz : ∀ r ∈ rs, r.2.length ≤ 1048576) :
    Calls Tryz.prog 105 #[.slice s.a s.n s.c] w fun e w' => ∃ (s' : Sl) (d : Nat → Path), e = .returned (.slice s'.a s'.n s'.c) ∧ RowG rcK 93 w' w.heap.size d p s' rs ∧ Below w.heap.size w w' := by
 have hil := h.len
 have D1 := hide (cloneRc_any s rs w h hl)
 obtain ⟨sa, len, cap⟩ := s
 simp only at hil hl
 have HL := hide hil
 have HZ := hide hz
 clear h hil hz
 go_enter Tryz.func105, Tryz.ntmps105
 go_wp2_with fail
 refine (unhide D1).mono ?_
 rintro e w2 ⟨a2, c2, es, rfl, hes, o2, hok, b2⟩
 simp only at o2 ⊢
 have P0 : RcP w.heap.size w2 (fun _ => p) p ⟨a2, len, c2⟩ rs es 0 := ⟨es, hes, o2, fun _ _ => rfl, fun i e x hi => absurd hi (Nat.not_lt_zero _), fun i _ => rfl⟩
 have HP := hide P0
 have HBR := hide hok
 have HES := hide hes
 have HB2 := hide b2
 clear D1 o2 b2 hok P0 hes
 go_wp2_with fail
 go_loopw [10] (fun i wr => ∃ (k : Nat) (d : Nat → Path), k ≤ len ∧ i = .int .i64 k ∧ RcP w.heap.size wr d p ⟨a2, len, c2⟩ rs es k ∧ Below w.heap.size w wr) (fun i _ => len - (intOf i).toNat)
 case atStart => exact ⟨0, fun _ => p, Nat.zero_le _, rfl, unhide HP, unhide HB2⟩
 case round =>
  obtain ⟨k, d, hk, rfl, hps, hbr⟩ := hrel
  clear HP HB2
  by_cases hlt : k < len
  · have hkz : k < rs.length := by rw [← unhide HL]; exact hlt
    obtain ⟨r, hit⟩ : ∃ r, rs[k]? = some r := ⟨_, List.getElem?_eq_getElem hkz⟩
    obtain ⟨e, hee⟩ : ∃ e, es[k]? = some e := ⟨_, List.getElem?_eq_getElem (by rw [unhide HES]; exact hkz)⟩
    obtain ⟨g, hga, hc0, hc1, hfz, hgB, hgl⟩ := hps.cell (unhide HL) hkz hee hit
    simp only at hga
    subst hga
    obtain ⟨q, z⟩ := r
    obtain ⟨⟨⟩, e⟩ := e
    have hoke := (unhide HBR) k ((), e) (q, z) hee hit
    have hzl : z.length ≤ 1048576 := (unhide HZ) (q, z) (List.mem_of_getElem? hit)
    have hrow0 : BRow w e.a e.n z := hoke.2.row
    have hel : z.length = e.n := hrow0.1
    simp only at hc0 hc1
    have kv := SBlk.new wr #[.int .i64 q, .slice e.a e.n e.c] 93
    have bv := below_alloc wr (.cells #[.int .i64 q, .slice e.a e.n e.c] 93)
    obtain ⟨Wv, ev⟩ : ∃ W, wr.alloc (.cells #[.int .i64 q, .slice e.a e.n e.c] 93) = W := ⟨_, rfl⟩
    rw [ev] at kv bv
    have v1 := kv.cell 1
    simp only [List.getElem?_cons_zero, List.getElem?_cons_succ] at v1
    have bwv := hbr.trans (bv.mono hbr.size)
    have DC := hide (clone_any e.a e.n e.c z Wv (hrow0.below bwv (Nat.le_refl _)) (by omega))
    have HST : Hid (∀ w3 a3 c3, w3.ownsRow Wv.heap.size 5 1 (.slice a3 e.n c3) e.n (z.map (Value.int .u8)) → Below Wv.heap.size Wv w3 → (∃ u, w3.cell? ⟨g, k * 2 + 1, none⟩ = some u) ∧ w3.frozen? ⟨g, k * 2 + 1, none⟩ = false ∧ (∃ d', RcP w.heap.size (w3.setCell ⟨g, k * 2 + 1, none⟩ (.slice a3 e.n c3)) d' p ⟨some ⟨g, 0, none⟩, len, c2⟩ rs es (k + 1)) ∧ Below w.heap.size w (w3.setCell ⟨g, k * 2 + 1, none⟩ (.slice a3 e.n c3))) := fun w3 a3 c3 ho hb => by
     have b13 : Below wr.heap.size wr w3 := bv.trans (hb.mono bv.size)
     refine ⟨⟨_, (b13.cell (p := ⟨g, k * 2 + 1, none⟩) hgl).trans hc1⟩, ?_, ⟨_, (hps.below bv).step hkz hit hoke.1 hrow0.2.1 bwv.size rfl ho hb⟩, (bwv.trans (hb.mono bwv.size)).setCell (p := ⟨g, k * 2 + 1, none⟩) hgB _⟩
     rw [World.frozen?_of_block (b13.block g hgl)]
     exact hfz _
    have k1 : (0 : Int) ≤ (k : Int) := by omega
    have k2 : (k : Int) < (len : Int) := by omega
    have EV := hide ev
    clear hps hbr hit hee hrow0 hel hzl hfz hoke kv bv bwv ev
    go_upto_region 5 with (rw [unhide EV])
    try rw [unhide EV]
    go_wp2_with fail
    refine (unhide DC).mono ?_
    rintro ev w3 ⟨a3, c3, rfl, o3, b3⟩
    obtain ⟨⟨u, hu⟩, hf, ⟨d', hP⟩, hB3⟩ := (unhide HST) w3 a3 c3 o3 b3
    have HP := hide hP
    have HB3 := hide hB3
    clear HST DC o3 b3 hP hB3 hc0 hc1 v1
    go_wp2_with fail
    go_roundw
    case rel => exact ⟨k + 1, _, by omega, by go_num, unhide HP, unhide HB3⟩
    case measure => simp [intOf]; omega
  · obtain rfl : k = len := by omega
    have hcs : RowG rcK 93 wr w.heap.size d p ⟨a2, k, c2⟩ rs := by
     obtain ⟨fs, h1, h2, h3, h4, h5⟩ := hps
     exact ⟨unhide HL, fs, h1, h2, h3, fun i e x he hx => h4 i e x (by have := (List.getElem?_eq_some_iff.1 hx).1; have := unhide HL; omega) he hx⟩
    have HC := hide hcs
    have HB := hide hbr
    clear hps hbr hcs
    go_wp2_with fail
    go_ret
    exact ⟨⟨a2, k, c2⟩, d, rfl, unhide HC, unhide HB⟩

set_option maxRecDepth 100000

/-- The slices of a list that came in. -/
theorem BsRow.slices {w : World} {b off len : Nat} {zss : List (List Int)} (h : BsRow w (some ⟨b, off, none⟩) len zss) :
    ∃ es : List Sl, es.length = len ∧ (∀ i e, es[i]? = some e → w.cell? ⟨b, off + i, none⟩ = some e.v) ∧ ∀ (i : Nat) (e : Sl) (z : List Int), es[i]? = some e → zss[i]? = some z → BRow w e.a e.n z := by
 have key : ∀ k, k ≤ len → ∃ es : List Sl, es.length = k ∧ (∀ i e, es[i]? = some e → w.cell? ⟨b, off + i, none⟩ = some e.v) ∧ ∀ (i : Nat) (e : Sl) (z : List Int), es[i]? = some e → zss[i]? = some z → BRow w e.a e.n z := by
  intro k
  induction k with
  | zero => exact fun _ => ⟨[], rfl, fun i e he => by simp at he, fun i e z he => by simp at he⟩
  | succ k ih =>
   intro hk
   obtain ⟨es, h1, h2, h3⟩ := ih (by omega)
   obtain ⟨z, hz⟩ : ∃ z, zss[k]? = some z := ⟨_, List.getElem?_eq_getElem (by rw [h.1]; omega)⟩
   obtain ⟨b', off', e', hat⟩ := h.2.2 (by omega)
   simp only [Option.some.injEq, Addr.mk.injEq, and_true] at e'
   obtain ⟨rfl, rfl⟩ := e'
   obtain ⟨sa, sl, sc, hc, hr⟩ := hat k z hz
   refine ⟨es ++ [⟨sa, sl, sc⟩], by simp [h1], fun i e he => ?_, fun i e y he hy => ?_⟩
   · by_cases hi : i < k
     · rw [List.getElem?_append_left (by omega)] at he; exact h2 i e he
     · have hi2 : i = k := by
         have := (List.getElem?_eq_some_iff.1 he).1
         simp at this
         omega
       subst hi2
       rw [List.getElem?_append_right (by omega), h1, Nat.sub_self] at he
       simp at he
       subst he
       exact hc
   · by_cases hi : i < k
     · rw [List.getElem?_append_left (by omega)] at he; exact h3 i e y he hy
     · have hi2 : i = k := by
         have := (List.getElem?_eq_some_iff.1 he).1
         simp at this
         omega
       subst hi2
       rw [List.getElem?_append_right (by omega), h1, Nat.sub_self] at he
       simp at he
       subst he
       obtain rfl := Option.some.inj (hz.symm.trans hy)
       exact hr
 exact key len (Nat.le_refl _)

set_option maxHeartbeats 2000000 in
theorem cloneSS_any (a : Option Addr) (len cap : Nat) (zss : List (List Int)) (w : World) (h : BsRow w a len zss) (hl : len ≤ 1048576) :
    Calls Tryz.prog 123 #[.slice a len cap] w fun e w' => ∃ (a' : Option Addr) (c' : Nat) (es : List Sl), e = .returned (.slice a' len c') ∧ es.length = len ∧
     w'.ownsRow w.heap.size 29 1 (.slice a' len c') len (es.map Sl.v) ∧ (∀ (i : Nat) (e : Sl) (z : List Int), es[i]? = some e → zss[i]? = some z → BRow w e.a e.n z) ∧ Below w.heap.size w w' := by
 obtain ⟨i0, hi, hz0, hz1, hz2⟩ := info_parts infoSB
 have qT : ∀ (w : World) (a : Option Addr) (n c n' c' : Nat), (binOp .eql 24 (.slice a n c) (.slice none n' c')).run Tryz.prog w = .ok (.bool a.isNone) w := fun w a n c n' c' => Lib.run_eql_slice_nil w _ _ a n c n' c' Tryz.underlying24
 cases a with
 | none =>
  have h0 : len = 0 := by
   rcases Nat.eq_zero_or_pos len with h0 | hp
   · exact h0
   · obtain ⟨_, _, e, _⟩ := h.2.2 hp; cases e
  subst h0
  clear h
  go_enter Tryz.func123, Tryz.ntmps123
  go_wp2_with fail
  go_ret
  exact ⟨none, 0, [], rfl, rfl, World.ownsRow_nil _ _ _ _, fun i e z he => by simp at he, Below.refl _ _⟩
 | some x =>
  have hown0 : (w.alloc (.cells #[] 29)).ownsRow w.heap.size 29 1 (.slice (some ⟨w.heap.size, 0, none⟩) 0 0) 0 [] := World.ownsRow_lit w #[] 0 (Nat.le_refl _) (by unfold maxLen; omega) rfl
  have hb := below_alloc w (.cells #[] 29)
  obtain ⟨es, s1, s2, s3⟩ : ∃ es : List Sl, es.length = len ∧ (∀ j u, (es.map Sl.v)[j]? = some u → (w.alloc (.cells #[] 29)).cell? (x.add j) = some u) ∧ ∀ (i : Nat) (e : Sl) (z : List Int), es[i]? = some e → zss[i]? = some z → BRow w e.a e.n z := by
   rcases Nat.eq_zero_or_pos len with h0 | hp
   · subst h0
     exact ⟨[], rfl, fun j u hu => by simp at hu, fun i e z he => by simp at he⟩
   · obtain ⟨b, off, e, _⟩ := h.2.2 hp
     cases e
     obtain ⟨es, s1, s2, s3⟩ := h.slices
     refine ⟨es, s1, fun j u hu => ?_, s3⟩
     rw [List.getElem?_map] at hu
     obtain ⟨e, he, rfl⟩ := Option.map_eq_some_iff.1 hu
     have hc := s2 j e he
     rw [add_none]
     exact (hb.cell (lt_of_cell hc)).trans hc
  have HS2 := hide s2
  have HS3 := hide s3
  have HB := hide hb
  clear h s2 s3 hb
  go_enter Tryz.func123, Tryz.ntmps123
  go_wp2_with (at_builtin; refine wpList_append_own _ rfl _ _ 24 rfl w.heap.size 29 i0 (.slice none 0 0) 1 24 Tryz.underlying24 hi hz0 hz1 hz2 rfl (by decide) _ _ _ rfl hown0 x len cap (es.map Sl.v) rfl ?c0 ?c1 ?c2 ?c3 ?c4 ?c5 ?_)
  case c0 => simp [s1]
  case c1 => exact unhide HS2
  case c2 => intro u hu; obtain ⟨z, _, rfl⟩ := List.mem_map.1 hu; rfl
  case c3 => unfold maxLen; omega
  case c4 => omega
  case c5 => simp
  intro v' w2 hown2 hgrow _
  obtain ⟨a2, cap2, hvv⟩ := own_shape hown2
  have hb2 : Below w.heap.size w w2 := (unhide HB).grown hgrow (unhide HB).size (fun g e => (hown0.lt g e).1)
  rw [hvv] at hown2
  rw [hvv]
  have HO := hide hown2
  have HB2 := hide hb2
  clear hown2 hb2 hgrow hvv hown0 HB
  go_wp2_with fail
  go_ret
  refine ⟨a2, cap2, es, ?_, s1, ?_, unhide HS3, unhide HB2⟩
  · simp
  · simpa using unhide HO

end Go.Proofs.YtdmcmlcmgbbclaaGreat
