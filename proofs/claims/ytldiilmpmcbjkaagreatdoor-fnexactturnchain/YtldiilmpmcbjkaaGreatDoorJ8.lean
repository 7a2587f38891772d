/- What is proved here: plain facts on the bytes of a header: what it is packed to, and that a header without a fault is small; no program is named. -/
import Derived.Test.YtldiilmpmcbjkaaGreatDoorJ6
import Derived.Test.YtldiilmpmcbjkaaGreatDoorJ7
namespace Go.Proofs.YtldiilmpmcbjkaaGreatDoor
open Go.RowKit
set_option linter.unusedVariables false
set_option maxRecDepth 100000

/-- The head of bytes as an item: none for one small byte. -/
def pcHd (z : List Int) : List Int := if z.length = 1 ∧ z.getD 0 0 < 128 then [] else headL false z.length

/-- Bytes as an item. -/
def pcL (z : List Int) : List Int := pcHd z ++ z

/-- Slices of bytes, as items one behind the other. -/
def pcsL (zss : List (List Int)) : List Int := zss.flatMap pcL

/-- Items as a list. -/
def wrapL (z : List Int) : List Int := headL true z.length ++ z

def listL (zss : List (List Int)) : List Int := wrapL (pcsL zss)

/-- What is in the list of a header, up to each of its parts. -/
def bd1 (h : Hd) : List Int := pcL h.p ++ pcL (shortF 7 h.n1)
def bd2 (h : Hd) : List Int := bd1 h ++ pcL (shortF 7 h.n2) ++ pcL (shortF 7 h.n3)
def bd3 (h : Hd) : List Int := bd2 h ++ pcL h.t ++ pcL (shortF 7 h.n5)
def bd4 (h : Hd) : List Int := bd3 h ++ listL h.s ++ pcL h.r
def bd5 (h : Hd) : List Int := bd4 h ++ pcL h.g ++ pcL h.e
def bd6 (h : Hd) : List Int := bd5 h ++ listL h.k

def packL (h : Hd) : List Int := wrapL (bd6 h)

/-- What a header without a fault keeps to. -/
structure HGood (h : Hd) : Prop where
  p : h.p.length = 32
  n1 : 0 ≤ h.n1 ∧ h.n1 ≤ 1099511627776
  n2 : 0 ≤ h.n2 ∧ h.n2 ≤ 1099511627776
  n3 : 0 ≤ h.n3 ∧ h.n3 ≤ 9
  t : h.t.length ≤ 4
  n5 : 0 ≤ h.n5 ∧ h.n5 ≤ 2
  s : h.s.length ≤ 7
  sz : ∀ z ∈ h.s, z.length ≤ 8
  r : h.r.length = 32
  g : h.g.length = 4
  e : h.e.length ≤ 4
  k : h.k.length ≤ 7
  kz : ∀ z ∈ h.k, z.length ≤ 8

theorem sgFrom_zero (zss : List (List Int)) : ∀ (r : List (List Int)) (k : Nat), sgFrom zss k r = 0 → ∀ z ∈ r, z.length = 4
  | [], k, _, z, hz => by simp at hz
  | a :: r, k, h, z, hz => by
    unfold sgFrom at h
    split at h
    · omega
    · rename_i hb
      rcases List.mem_cons.1 hz with e | e
      · subst e
        have : sgBad zss k z = false := by simpa using hb
        unfold sgBad at this
        simp at this
        exact this.1
      · exact sgFrom_zero zss r (k + 1) h z e

theorem coFrom_zero : ∀ (r : List (List Int)), coFrom r = 0 → ∀ z ∈ r, z.length = 8
  | [], _, z, hz => by simp at hz
  | a :: r, h, z, hz => by
    unfold coFrom at h
    split at h
    · rename_i ha
      rcases List.mem_cons.1 hz with e | e
      · subst e; exact ha
      · exact coFrom_zero r h z e
    · omega

theorem good_of {h : Hd} (hf : hdFlt h = 0) : HGood h := by
  unfold hdFlt at hf
  split at hf
  · omega
  · rename_i h1
    split at hf
    · omega
    · rename_i h2
      split at hf
      · rename_i h3
        have l1 : hdLen h = false := by simpa using h1
        have n1 : hdNum h = true := by simpa using h2
        unfold hdLen at l1
        simp only [Bool.or_eq_false_iff, Bool.and_eq_false_iff, bne_eq_false_iff_eq] at l1
        obtain ⟨⟨⟨⟨a1, a2⟩, a3⟩, a4⟩, a5⟩ := l1
        unfold hdNum within at n1
        simp only [Bool.and_eq_true, decide_eq_true_eq] at n1
        obtain ⟨⟨⟨c1, c2⟩, c3⟩, c5⟩ := n1
        unfold sgFlt at h3
        split at h3
        · omega
        · rename_i s7
          have hs := sgFrom_zero h.s h.s 0 h3
          unfold coFlt at hf
          split at hf
          · omega
          · rename_i k7
            have hk := coFrom_zero h.k hf
            exact ⟨by omega, c1, c2, c3, by omega, c5, by omega, fun z hz => by have := hs z hz; omega, by omega, by omega, by omega, by omega, fun z hz => by have := hk z hz; omega⟩
      · omega

theorem pcL_length (z : List Int) : (pcL z).length ≤ 8 + z.length := by
  unfold pcL
  rw [List.length_append]
  have : (pcHd z).length ≤ 8 := by
    unfold pcHd
    split
    · simp
    · exact headL_length _ _
  omega

theorem pcsL_length : ∀ (zss : List (List Int)), (∀ z ∈ zss, z.length ≤ 8) → (pcsL zss).length ≤ 16 * zss.length
  | [], _ => by simp [pcsL]
  | z :: r, h => by
    have h1 := pcsL_length r (fun y hy => h y (List.mem_cons_of_mem _ hy))
    have h2 := pcL_length z
    have h3 := h z List.mem_cons_self
    unfold pcsL at h1 ⊢
    rw [List.flatMap_cons, List.length_append, List.length_cons]
    omega

theorem wrapL_length (z : List Int) : (wrapL z).length ≤ 8 + z.length := by
  unfold wrapL
  rw [List.length_append]
  have := headL_length true z.length
  omega

theorem listL_length (zss : List (List Int)) (h : ∀ z ∈ zss, z.length ≤ 8) (hl : zss.length ≤ 7) : (listL zss).length ≤ 120 := by
  have h1 := wrapL_length (pcsL zss)
  have h2 := pcsL_length zss h
  unfold listL
  omega

theorem sh_length (n : Int) : (shortF 7 n).length ≤ 7 := shortF_length 7 n

theorem bd_length {h : Hd} (g : HGood h) : (bd1 h).length ≤ 60 ∧ (bd2 h).length ≤ 100 ∧ (bd3 h).length ≤ 140 ∧ (bd4 h).length ≤ 300 ∧ (bd5 h).length ≤ 340 ∧ (bd6 h).length ≤ 460 := by
  have a1 := pcL_length h.p
  have a2 := pcL_length (shortF 7 h.n1)
  have a3 := pcL_length (shortF 7 h.n2)
  have a4 := pcL_length (shortF 7 h.n3)
  have a5 := pcL_length h.t
  have a6 := pcL_length (shortF 7 h.n5)
  have a7 := listL_length h.s g.sz g.s
  have a8 := pcL_length h.r
  have a9 := pcL_length h.g
  have a10 := pcL_length h.e
  have a11 := listL_length h.k g.kz g.k
  have s1 := sh_length h.n1
  have s2 := sh_length h.n2
  have s3 := sh_length h.n3
  have s5 := sh_length h.n5
  have := g.p
  have := g.t
  have := g.r
  have := g.g
  have := g.e
  unfold bd6 bd5 bd4 bd3 bd2 bd1
  simp only [List.length_append]
  omega

end Go.Proofs.YtldiilmpmcbjkaaGreatDoor

/- What is proved here: plain facts on the way up from an item to the first one, and on the fault of items; no program is named. -/
namespace Go.Proofs.YtldiilmpmcbjkaaGreatDoor
open Go.RowKit
set_option linter.unusedVariables false
set_option maxRecDepth 100000

/-- The places from one up to the first one: each one's parent is ahead of it; the first one's is -1. -/
def IsWay (its : List It) : Int → List Nat → Prop
  | a, [] => a = -1
  | a, k :: r => a = (k : Int) ∧ ∃ it, its[k]? = some it ∧ -1 ≤ it.p ∧ it.p < k ∧ IsWay its it.p r

/-- The same, reckoned. -/
def wayF (its : List It) : Nat → Int → List Nat
  | 0, _ => []
  | n + 1, a => if a < 0 then [] else match its[a.toNat]? with
    | none => []
    | some it => a.toNat :: wayF its n it.p

theorem IsWay.fuel {its : List It} : ∀ {xs : List Nat} {a : Int} {n : Nat}, IsWay its a xs → a < n → wayF its n a = xs
  | [], a, n, h, _ => by
    obtain rfl : a = -1 := h
    cases n <;> rfl
  | k :: r, a, 0, h, hn => by
    obtain ⟨rfl, _⟩ := h
    omega
  | k :: r, a, n + 1, h, hn => by
    obtain ⟨rfl, it, hit, _, hlt, hr⟩ := h
    unfold wayF
    rw [if_neg (by omega), Int.toNat_natCast, hit]
    show k :: wayF its n it.p = k :: r
    rw [hr.fuel (by omega)]

theorem wayF_len (its : List It) : ∀ (n : Nat) (a : Int), (wayF its n a).length ≤ n
  | 0, _ => Nat.le_refl _
  | n + 1, a => by
    unfold wayF
    split
    · simp
    · split
      · simp
      · have := wayF_len its n (by assumption : It).p
        simp; omega

theorem IsWay.ge {its : List It} {xs : List Nat} {a : Int} (h : IsWay its a xs) : -1 ≤ a := by
  cases xs with
  | nil => have : a = -1 := h; omega
  | cons k r => obtain ⟨rfl, _⟩ := h; omega

/-- The first K items have parents ahead of them. -/
def UpOk (its : List It) (K : Nat) : Prop := ∀ j it, j < K → its[j]? = some it → (j = 0 → it.p = -1) ∧ (0 < j → 0 ≤ it.p ∧ it.p < j)

theorem UpOk.way {its : List It} {K : Nat} (h : UpOk its K) (hK : K ≤ its.length) : ∀ (j : Nat), j < K → ∃ xs, IsWay its (j : Int) xs := by
  intro j
  induction j using Nat.strongRecOn with
  | ind j ih =>
    intro hj
    have hl : j < its.length := by omega
    obtain ⟨it, hit⟩ : ∃ it, its[j]? = some it := ⟨_, List.getElem?_eq_getElem hl⟩
    obtain ⟨h0, h1⟩ := h j it hj hit
    by_cases e : j = 0
    · subst e
      have hp := h0 rfl
      exact ⟨[0], rfl, it, hit, by omega, by omega, hp⟩
    · obtain ⟨p0, p1⟩ := h1 (by omega)
      obtain ⟨q, hq⟩ : ∃ q : Nat, it.p = (q : Int) := ⟨it.p.toNat, by omega⟩
      obtain ⟨xs, hx⟩ := ih q (by omega) (by omega)
      exact ⟨j :: xs, rfl, it, hit, by omega, p1, by rw [hq]; exact hx⟩

/-- The way up from a place. -/
def upL (its : List It) (a : Int) : List Nat := wayF its (its.length + 1) a

theorem IsWay.up {its : List It} {xs : List Nat} {a : Int} (h : IsWay its a xs) (ha : a ≤ its.length) : upL its a = xs := h.fuel (by omega)

def lAt (its : List It) (q : Nat) : Bool := match its[q]? with
  | none => false
  | some it => it.l

/-- The fault of the item at a place, those ahead of it having none. -/
def fltAt (its : List It) (i : Nat) (it : It) : Int :=
  if it.l = true ∧ 0 < it.z.length then 1
  else if 300 < it.z.length then 2
  else if i = 0 then (if it.p = -1 then 0 else 3)
  else if it.p < 0 ∨ (i : Int) ≤ it.p then 3
  else if lAt its it.p.toNat = true ∧ it.p.toNat ∈ upL its ((i : Int) - 1) then (if 5 < (upL its i).length then 2 else 0)
  else 1

/-- The first fault among the items from a place on. -/
def fltFrom (its : List It) : Nat → List It → Int
  | _, [] => 0
  | i, it :: r => if fltAt its i it = 0 then fltFrom its (i + 1) r else fltAt its i it

def itemsFlt (its : List It) : Int := if its.length < 1 ∨ 200 < its.length then 2 else fltFrom its 0 its

theorem fltFrom_step (its : List It) (k : Nat) (it : It) (h : its[k]? = some it) : fltFrom its k (its.drop k) = if fltAt its k it = 0 then fltFrom its (k + 1) (its.drop (k + 1)) else fltAt its k it := by
  obtain ⟨hk, e⟩ := List.getElem?_eq_some_iff.1 h
  rw [List.drop_eq_getElem_cons hk, e]
  rfl

theorem fltFrom_end (its : List It) (k : Nat) (h : its.length ≤ k) : fltFrom its k (its.drop k) = 0 := by
  rw [List.drop_eq_nil_of_le h]; rfl

/-- Items without a fault have their parents ahead. -/
theorem upOk_step {its : List It} {k : Nat} {it : It} (h : UpOk its k) (hit : its[k]? = some it) (h0 : k = 0 → it.p = -1) (h1 : 0 < k → 0 ≤ it.p ∧ it.p < k) : UpOk its (k + 1) := by
  intro j jt hj hjt
  by_cases e : j = k
  · subst e
    obtain rfl : jt = it := by rw [hit] at hjt; exact (Option.some.inj hjt).symm
    exact ⟨h0, h1⟩
  · exact h j jt (by omega) hjt

theorem fltAt_up {its : List It} {k : Nat} {it : It} (h : fltAt its k it = 0) : (k = 0 → it.p = -1) ∧ (0 < k → 0 ≤ it.p ∧ it.p < k) := by
  unfold fltAt at h
  split at h
  · omega
  · split at h
    · omega
    · split at h
      · split at h
        · exact ⟨fun _ => by assumption, fun _ => by omega⟩
        · omega
      · split at h
        · omega
        · exact ⟨fun _ => by omega, fun _ => by omega⟩

theorem fltAt_cases (its : List It) (k : Nat) (it : It) : fltAt its k it = 0 ∨ fltAt its k it = 1 ∨ fltAt its k it = 2 ∨ fltAt its k it = 3 := by
  unfold fltAt
  repeat' split
  all_goals omega

theorem fltFrom_cases (its : List It) : ∀ (r : List It) (k : Nat), fltFrom its k r = 0 ∨ fltFrom its k r = 1 ∨ fltFrom its k r = 2 ∨ fltFrom its k r = 3
  | [], k => .inl rfl
  | it :: r, k => by
    unfold fltFrom
    split
    · exact fltFrom_cases its r (k + 1)
    · exact fltAt_cases its k it

theorem itemsFlt_cases (its : List It) : itemsFlt its = 0 ∨ itemsFlt its = 1 ∨ itemsFlt its = 2 ∨ itemsFlt its = 3 := by
  unfold itemsFlt
  split
  · omega
  · exact fltFrom_cases its its 0

end Go.Proofs.YtldiilmpmcbjkaaGreatDoor

/- What is proved here: plain facts on the parts of an item; no program is named. -/
namespace Go.Proofs.YtldiilmpmcbjkaaGreatDoor
open Go.RowKit
set_option linter.unusedVariables false
set_option maxRecDepth 100000

/-- The places below k whose parent is a given one. -/
def partsUp (its : List It) (at_ : Int) : Nat → List Int
  | 0 => []
  | k + 1 => partsUp its at_ k ++ (match its[k]? with
    | some it => if it.p = at_ then [(k : Int)] else []
    | none => [])

theorem partsUp_yes {its : List It} {at_ : Int} {k : Nat} {it : It} (h : its[k]? = some it) (hp : it.p = at_) : partsUp its at_ (k + 1) = partsUp its at_ k ++ [(k : Int)] := by
  show partsUp its at_ k ++ _ = _
  rw [h]; simp [hp]

theorem partsUp_no {its : List It} {at_ : Int} {k : Nat} {it : It} (h : its[k]? = some it) (hp : it.p ≠ at_) : partsUp its at_ (k + 1) = partsUp its at_ k := by
  show partsUp its at_ k ++ _ = _
  rw [h]; simp [hp]

theorem partsUp_length (its : List It) (at_ : Int) : ∀ k, (partsUp its at_ k).length ≤ k
  | 0 => Nat.le_refl _
  | k + 1 => by
    have := partsUp_length its at_ k
    unfold partsUp
    split
    · split <;> simp <;> omega
    · simp; omega

/-- What PartsOf answers: its code and its list. -/
def poCode (its : List It) (at_ : Int) : Int := if itemsFlt its = 0 then (if 0 ≤ at_ ∧ at_ ≤ (its.length : Int) - 1 then 0 else 3) else itemsFlt its
def poList (its : List It) (at_ : Int) : List Int := if itemsFlt its = 0 ∧ 0 ≤ at_ ∧ at_ ≤ (its.length : Int) - 1 then partsUp its at_ its.length else []

theorem poList_length (its : List It) (at_ : Int) : (poList its at_).length ≤ its.length := by
  unfold poList
  split
  · exact partsUp_length _ _ _
  · simp

end Go.Proofs.YtldiilmpmcbjkaaGreatDoor

/- What is proved here: plain facts on items written as bytes: told from the first one down, each with all in it, or in their order, each with its head; no program is named. -/
namespace Go.Proofs.YtldiilmpmcbjkaaGreatDoor
open Go.RowKit
set_option linter.unusedVariables false
set_option maxRecDepth 100000

/-- The head of an item that has n bytes in it: in the model, and in the program, which has none for more than 1200. -/
def hdS (it : It) (n : Nat) : List Int := if it.l = false ∧ n = 1 ∧ it.z.getD 0 0 < 128 then [] else headL it.l n
def hdI (it : It) (n : Nat) : List Int := if it.l = false ∧ n = 1 ∧ it.z.getD 0 0 < 128 then [] else hdBytes it.l n

theorem hdS_length (it : It) (n : Nat) : (hdS it n).length ≤ 8 := by
  unfold hdS; split
  · simp
  · exact headL_length _ _

theorem hdI_length (it : It) (n : Nat) : (hdI it n).length ≤ 8 := by
  unfold hdI; split
  · simp
  · exact hdBytes_length _ _

theorem hd_same (it : It) (n : Nat) (h : n ≤ 1200) : hdI it n = hdS it n := by
  unfold hdI hdS
  split
  · rfl
  · unfold hdBytes; rw [if_pos (by omega)]

/-- The parent of a place; that of none is -2. -/
def pOf (its : List It) (j : Nat) : Int := match its[j]? with
  | some it => it.p
  | none => -2

/-- The places from k on, n of them, whose parent is x. -/
def kidsN (its : List It) (x : Int) : Nat → Nat → List Nat
  | 0, _ => []
  | n + 1, k => (if pOf its k = x then [k] else []) ++ kidsN its x n (k + 1)

def kidsFrom (its : List It) (x : Int) (k : Nat) : List Nat := kidsN its x (its.length - k) k

theorem kidsFrom_end (its : List It) (x : Int) (k : Nat) (h : its.length ≤ k) : kidsFrom its x k = [] := by
  unfold kidsFrom
  rw [Nat.sub_eq_zero_of_le h]; rfl

theorem kidsFrom_yes {its : List It} {x : Int} {k : Nat} (hk : k < its.length) (h : pOf its k = x) : kidsFrom its x k = k :: kidsFrom its x (k + 1) := by
  unfold kidsFrom
  rw [show its.length - k = (its.length - (k + 1)) + 1 by omega]
  show (if pOf its k = x then [k] else []) ++ _ = _
  rw [if_pos h]; rfl

theorem kidsFrom_no {its : List It} {x : Int} {k : Nat} (hk : k < its.length) (h : pOf its k ≠ x) : kidsFrom its x k = kidsFrom its x (k + 1) := by
  unfold kidsFrom
  rw [show its.length - k = (its.length - (k + 1)) + 1 by omega]
  show (if pOf its k = x then [k] else []) ++ _ = _
  rw [if_neg h]; rfl

theorem kidsN_mem (its : List It) (x : Int) : ∀ (n k j : Nat), j ∈ kidsN its x n k → k ≤ j ∧ j < k + n ∧ pOf its j = x
  | 0, _, _, h => by simp [kidsN] at h
  | n + 1, k, j, h => by
    rcases List.mem_append.1 h with e | e
    · split at e
      · simp at e; subst e; exact ⟨Nat.le_refl _, by omega, by assumption⟩
      · simp at e
    · obtain ⟨a, b, c⟩ := kidsN_mem its x n (k + 1) j e
      exact ⟨by omega, by omega, c⟩

theorem kidsFrom_mem {its : List It} {x : Int} {k j : Nat} (h : j ∈ kidsFrom its x k) : k ≤ j ∧ j < its.length ∧ pOf its j = x := by
  obtain ⟨a, b, c⟩ := kidsN_mem its x _ _ _ h
  exact ⟨a, by omega, c⟩

theorem kidsN_nil (its : List It) (x : Int) : ∀ (n k : Nat), (∀ j, k ≤ j → j < k + n → pOf its j ≠ x) → kidsN its x n k = []
  | 0, _, _ => rfl
  | n + 1, k, h => by
    show (if pOf its k = x then [k] else []) ++ _ = _
    rw [if_neg (h k (Nat.le_refl _) (by omega)), kidsN_nil its x n (k + 1) (fun j h1 h2 => h j (by omega) (by omega))]
    rfl

theorem kidsFrom_nil {its : List It} {x : Int} {k : Nat} (h : ∀ j, k ≤ j → j < its.length → pOf its j ≠ x) : kidsFrom its x k = [] :=
  kidsN_nil its x _ _ (fun j h1 h2 => h j h1 (by omega))

/-- No place up to k is a part of k or of a later one. -/
theorem kidsFrom_skip {its : List It} {x : Int} : ∀ (m k : Nat), k ≤ m → m ≤ its.length → (∀ j, k ≤ j → j < m → pOf its j ≠ x) → kidsFrom its x k = kidsFrom its x m
  | 0, k, h, _, _ => by
    obtain rfl : k = 0 := by omega
    rfl
  | m + 1, k, h, hm, hh => by
    by_cases e : k = m + 1
    · rw [e]
    · rw [kidsFrom_skip m k (by omega) (by omega) (fun j h1 h2 => hh j h1 (by omega)), kidsFrom_no (by omega) (hh m (by omega) (by omega))]

theorem parts_kids (its : List It) (x : Int) : ∀ (n k : Nat), k + n = its.length → partsUp its x its.length = partsUp its x k ++ (kidsN its x n k).map (fun (j : Nat) => (j : Int))
  | 0, k, h => by
    obtain rfl : k = its.length := by omega
    simp [kidsN]
  | n + 1, k, h => by
    have hk : k < its.length := by omega
    rw [parts_kids its x n (k + 1) (by omega)]
    show partsUp its x (k + 1) ++ _ = partsUp its x k ++ ((if pOf its k = x then [k] else []) ++ kidsN its x n (k + 1)).map _
    have hit := List.getElem?_eq_getElem hk
    have hp : pOf its k = its[k].p := by unfold pOf; rw [hit]
    by_cases e : its[k].p = x
    · rw [partsUp_yes hit e, if_pos (by rw [hp]; exact e)]; simp
    · rw [partsUp_no hit e, if_neg (by rw [hp]; exact e)]; simp

theorem parts_all (its : List It) (x : Int) : partsUp its x its.length = (kidsFrom its x 0).map (fun (j : Nat) => (j : Int)) := by
  have := parts_kids its x its.length 0 (by omega)
  rw [this]
  simp [partsUp, kidsFrom]

/-- An item with all in it, its head told by H. -/
def encH (H : It → Nat → List Int) (its : List It) : Nat → Nat → List Int
  | 0, _ => []
  | n + 1, i => match its[i]? with
    | none => []
    | some it => H it (it.z ++ (kidsFrom its i 0).flatMap (encH H its n)).length ++ (it.z ++ (kidsFrom its i 0).flatMap (encH H its n))

def enc (H : It → Nat → List Int) (its : List It) (i : Nat) : List Int := encH H its its.length i

theorem pOf_some {its : List It} {k : Nat} {it : It} (h : its[k]? = some it) : pOf its k = it.p := by unfold pOf; rw [h]

theorem kid_later {its : List It} (hU : UpOk its its.length) {i k j : Nat} (h : j ∈ kidsFrom its (i : Int) k) : i < j ∧ j < its.length := by
  obtain ⟨_, hl, hp⟩ := kidsFrom_mem h
  obtain ⟨it, hit⟩ : ∃ it, its[j]? = some it := ⟨_, List.getElem?_eq_getElem hl⟩
  rw [pOf_some hit] at hp
  obtain ⟨h0, h1⟩ := hU j it hl hit
  rcases Nat.eq_zero_or_pos j with e | e
  · have := h0 e; omega
  · have := h1 e; omega

theorem flatMap_eq {α β : Type} {l : List α} {f g : α → List β} (h : ∀ x ∈ l, f x = g x) : l.flatMap f = l.flatMap g := by
  induction l with
  | nil => rfl
  | cons a r ih =>
    rw [List.flatMap_cons, List.flatMap_cons, h a (by simp), ih (fun x hx => h x (by simp [hx]))]

theorem encH_fuel (H : It → Nat → List Int) {its : List It} (hU : UpOk its its.length) : ∀ (n m i : Nat), its.length ≤ i + n → its.length ≤ i + m → encH H its n i = encH H its m i
  | 0, 0, _, _, _ => rfl
  | 0, m + 1, i, h, _ => by
    have : its[i]? = none := List.getElem?_eq_none (by omega)
    unfold encH; rw [this]
  | n + 1, 0, i, _, h => by
    have : its[i]? = none := List.getElem?_eq_none (by omega)
    unfold encH; rw [this]
  | n + 1, m + 1, i, hn, hm => by
    unfold encH
    cases hit : its[i]? with
    | none => rfl
    | some it =>
      have e : (kidsFrom its i 0).flatMap (encH H its n) = (kidsFrom its i 0).flatMap (encH H its m) := flatMap_eq (fun j hj => by
        obtain ⟨h1, h2⟩ := kid_later hU hj
        exact encH_fuel H hU n m j (by omega) (by omega))
      simp only [e]

/-- All in an item. -/
def cont (H : It → Nat → List Int) (its : List It) (i : Nat) (it : It) : List Int := it.z ++ (kidsFrom its i 0).flatMap (enc H its)

theorem enc_eq (H : It → Nat → List Int) {its : List It} (hU : UpOk its its.length) {i : Nat} {it : It} (hit : its[i]? = some it) : enc H its i = H it (cont H its i it).length ++ cont H its i it := by
  have hl := (List.getElem?_eq_some_iff.1 hit).1
  obtain ⟨m, hm⟩ : ∃ m, its.length = m + 1 := ⟨its.length - 1, by omega⟩
  have e : (kidsFrom its i 0).flatMap (encH H its m) = (kidsFrom its i 0).flatMap (enc H its) := flatMap_eq (fun j hj => by
    obtain ⟨h1, h2⟩ := kid_later hU hj
    exact encH_fuel H hU m its.length j (by omega) (by omega))
  have : enc H its i = encH H its (m + 1) i := by unfold enc; rw [hm]
  rw [this]
  show (match its[i]? with | none => [] | some it => _) = _
  rw [hit]
  simp only [e]
  rfl

/-- The parts of an item from a place on. -/
def eFrom (H : It → Nat → List Int) (its : List It) (x k : Nat) : List Int := (kidsFrom its x k).flatMap (enc H its)

/-- The items from a place on, each with its head. -/
def dN (H : It → Nat → List Int) (its : List It) : Nat → Nat → List Int
  | 0, _ => []
  | n + 1, k => (match its[k]? with
    | none => []
    | some it => H it (cont H its k it).length ++ it.z) ++ dN H its n (k + 1)

def dFrom (H : It → Nat → List Int) (its : List It) (k : Nat) : List Int := dN H its (its.length - k) k

theorem dFrom_end (H : It → Nat → List Int) (its : List It) (k : Nat) (h : its.length ≤ k) : dFrom H its k = [] := by
  unfold dFrom; rw [Nat.sub_eq_zero_of_le h]; rfl

theorem dFrom_step (H : It → Nat → List Int) {its : List It} {k : Nat} {it : It} (hit : its[k]? = some it) : dFrom H its k = H it (cont H its k it).length ++ it.z ++ dFrom H its (k + 1) := by
  have hl := (List.getElem?_eq_some_iff.1 hit).1
  unfold dFrom
  rw [show its.length - k = (its.length - (k + 1)) + 1 by omega]
  show (match its[k]? with | none => [] | some it => _) ++ _ = _
  rw [hit]

theorem IsWay.suffix {its : List It} {q : Nat} : ∀ {ws : List Nat} {a : Int}, IsWay its a ws → q ∈ ws → ∃ pre post, ws = pre ++ q :: post ∧ IsWay its (q : Int) (q :: post)
  | [], _, _, h => by simp at h
  | k :: r, a, hw, h => by
    obtain ⟨rfl, it, hit, hge, hlt, hr⟩ := hw
    rcases List.mem_cons.1 h with e | e
    · subst e
      exact ⟨[], r, rfl, rfl, it, hit, hge, hlt, hr⟩
    · obtain ⟨pre, post, e1, e2⟩ := hr.suffix e
      exact ⟨k :: pre, post, by rw [e1]; rfl, e2⟩

/-- A way falls. -/
theorem IsWay.falls {its : List It} : ∀ {ws : List Nat} {a : Int}, IsWay its a ws → ∀ x ∈ ws, (x : Int) ≤ a
  | [], _, _, _, h => by simp at h
  | k :: r, a, hw, x, h => by
    obtain ⟨rfl, it, hit, hge, hlt, hr⟩ := hw
    rcases List.mem_cons.1 h with e | e
    · omega
    · have := hr.falls x e; omega

theorem IsWay.apart {its : List It} : ∀ {pre : List Nat} {q : Nat} {post : List Nat} {a : Int}, IsWay its a (pre ++ q :: post) → (∀ x ∈ pre, q < x) ∧ ∀ x ∈ post, x < q
  | [], q, post, a, hw => by
    obtain ⟨rfl, it, hit, hge, hlt, hr⟩ := hw
    exact ⟨fun x h => by simp at h, fun x h => by have := hr.falls x h; omega⟩
  | k :: pre, q, post, a, hw => by
    obtain ⟨rfl, it, hit, hge, hlt, hr⟩ := hw
    obtain ⟨h1, h2⟩ := IsWay.apart hr
    refine ⟨fun x h => ?_, h2⟩
    rcases List.mem_cons.1 h with e | e
    · have := hr.falls q (by simp); omega
    · exact h1 x e

theorem IsWay.unique {its : List It} {a : Int} : ∀ {xs ys : List Nat}, IsWay its a xs → IsWay its a ys → xs = ys := by
  intro xs ys h1 h2
  have ha := h1.ge
  have e1 := h1.fuel (n := (a + 1).toNat) (by omega)
  have e2 := h2.fuel (n := (a + 1).toNat) (by omega)
  rw [← e1, ← e2]

/-- Items in order: each one's parent is on the way up from the one ahead. -/
def LineOk (its : List It) : Prop := ∀ (k : Nat) (it : It), 0 < k → its[k]? = some it → it.p.toNat ∈ upL its ((k : Int) - 1)

theorem way_at {its : List It} (hU : UpOk its its.length) {k : Nat} (hk : k < its.length) : IsWay its (k : Int) (upL its (k : Int)) := by
  obtain ⟨xs, hx⟩ := hU.way (Nat.le_refl _) k hk
  rw [hx.up (by omega)]; exact hx

/-- On ways from later places nothing ahead of k is met but what the way from k's parent has. -/
theorem way_later {its : List It} (hU : UpOk its its.length) (hL : LineOk its) {k q : Nat} {post : List Nat} {it : It} (hit : its[k]? = some it) (hq : it.p = (q : Int)) (hw : IsWay its (q : Int) (q :: post)) :
    ∀ (n : Nat), k + n < its.length → ∀ x ∈ upL its ((k + n : Nat) : Int), x < k → x ∈ q :: post
  | 0, hn, x, hx, hxk => by
    have h1 := way_at hU (k := k) (by omega)
    have h2 : IsWay its (k : Int) (k :: q :: post) := by
      have hkl := (List.getElem?_eq_some_iff.1 hit).1
      obtain ⟨u0, u1⟩ := hU k it hkl hit
      have : it.p < k := by rcases Nat.eq_zero_or_pos k with e | e; have := u0 e; omega; exact (u1 e).2
      exact ⟨rfl, it, hit, by omega, this, by rw [hq]; exact hw⟩
    rw [show ((k + 0 : Nat) : Int) = (k : Int) by simp, h1.unique h2] at hx
    rcases List.mem_cons.1 hx with e | e
    · omega
    · exact e
  | n + 1, hn, x, hx, hxk => by
    have ih := way_later hU hL hit hq hw n (by omega)
    obtain ⟨jt, hjt⟩ : ∃ jt, its[k + (n + 1)]? = some jt := ⟨_, List.getElem?_eq_getElem hn⟩
    have hline := hL (k + (n + 1)) jt (by omega) hjt
    have e1 : ((k + (n + 1) : Nat) : Int) - 1 = ((k + n : Nat) : Int) := by omega
    rw [e1] at hline
    obtain ⟨pre, post', es, hs⟩ := (way_at hU (k := k + n) (by omega)).suffix hline
    obtain ⟨u0, u1⟩ := hU _ jt hn hjt
    have hjp := u1 (by omega)
    have hw2 : IsWay its ((k + (n + 1) : Nat) : Int) ((k + (n + 1)) :: jt.p.toNat :: post') := ⟨rfl, jt, hjt, by omega, hjp.2, by
      rw [show ((jt.p.toNat : Nat) : Int) = jt.p by omega] at hs; exact hs⟩
    rw [(way_at hU hn).unique hw2] at hx
    rcases List.mem_cons.1 hx with e | e
    · omega
    · exact ih x (by rw [es]; exact List.mem_append.2 (.inr e)) hxk

set_option maxHeartbeats 400000 in
/-- The items from a place on are the parts, from it on, of all on the way up from the place ahead. -/
theorem suffix_eq (H : It → Nat → List Int) {its : List It} (hU : UpOk its its.length) (hL : LineOk its) : ∀ (n k : Nat), k + n = its.length → 0 < k → dFrom H its k = (upL its ((k : Int) - 1)).flatMap (fun x => eFrom H its x k)
  | 0, k, h, h0 => by
    rw [dFrom_end H its k (by omega)]
    symm
    rw [List.flatMap_eq_nil_iff]
    intro x _
    unfold eFrom
    rw [kidsFrom_end its _ k (by omega)]; rfl
  | n + 1, k, h, h0 => by
    have hk : k < its.length := by omega
    have ih := suffix_eq H hU hL n (k + 1) (by omega) (by omega)
    obtain ⟨it, hit⟩ : ∃ it, its[k]? = some it := ⟨_, List.getElem?_eq_getElem hk⟩
    obtain ⟨_, u1⟩ := hU k it hk hit
    obtain ⟨p0, p1⟩ := u1 h0
    obtain ⟨q, hq⟩ : ∃ q : Nat, it.p = (q : Int) := ⟨it.p.toNat, by omega⟩
    have hqk : q < k := by omega
    have hline := hL k it h0 hit
    rw [hq, Int.toNat_natCast] at hline
    have hwk : IsWay its ((k : Int) - 1) (upL its ((k : Int) - 1)) := by
      have := way_at hU (k := k - 1) (by omega)
      rwa [show ((k - 1 : Nat) : Int) = (k : Int) - 1 by omega] at this
    obtain ⟨pre, post, es, hs⟩ := hwk.suffix hline
    have hap : (∀ x ∈ pre, q < x) ∧ ∀ x ∈ post, x < q := IsWay.apart (by rw [← es]; exact hwk)
    have hw2 : IsWay its (k : Int) (k :: q :: post) := ⟨rfl, it, hit, by omega, p1, by rw [hq]; exact hs⟩
    have hpk : pOf its k = (q : Int) := by rw [pOf_some hit, hq]
    have e1 : upL its (((k + 1 : Nat) : Int) - 1) = k :: q :: post := by
      rw [show ((k + 1 : Nat) : Int) - 1 = (k : Int) by omega]
      exact (way_at hU hk).unique hw2
    rw [e1] at ih
    have hpre : ∀ x ∈ pre, eFrom H its x k = [] := by
      intro x hx
      unfold eFrom
      rw [kidsFrom_nil (fun j hj1 hj2 hp => ?_)]; rfl
      have hxq := hap.1 x hx
      have hxk : x < k := by have := hwk.falls x (by rw [es]; exact List.mem_append.2 (.inl hx)); omega
      by_cases e : j = k
      · subst e; rw [hpk] at hp; omega
      · obtain ⟨jt, hjt⟩ : ∃ jt, its[j]? = some jt := ⟨_, List.getElem?_eq_getElem hj2⟩
        have hjl := hL j jt (by omega) hjt
        rw [pOf_some hjt] at hp
        rw [hp, Int.toNat_natCast, show (j : Int) - 1 = ((k + (j - 1 - k) : Nat) : Int) by omega] at hjl
        have hm := way_later hU hL hit hq hs (j - 1 - k) (by omega) x hjl hxk
        rcases List.mem_cons.1 hm with e' | e'
        · omega
        · have := hap.2 x e'; omega
    have hpost : post.flatMap (fun x => eFrom H its x k) = post.flatMap (fun x => eFrom H its x (k + 1)) := flatMap_eq (fun x hx => by
      have := hap.2 x hx
      unfold eFrom
      rw [kidsFrom_no hk (by rw [hpk]; omega)])
    have hqe : eFrom H its q k = enc H its k ++ eFrom H its q (k + 1) := by
      unfold eFrom
      rw [kidsFrom_yes hk hpk, List.flatMap_cons]
    have hke : cont H its k it = it.z ++ eFrom H its k (k + 1) := by
      unfold cont eFrom
      rw [kidsFrom_skip (k + 1) 0 (by omega) (by omega) (fun j _ hj hp => ?_)]
      obtain ⟨jt, hjt⟩ : ∃ jt, its[j]? = some jt := ⟨_, List.getElem?_eq_getElem (by omega)⟩
      rw [pOf_some hjt] at hp
      obtain ⟨v0, v1⟩ := hU j jt (by omega) hjt
      rcases Nat.eq_zero_or_pos j with e | e
      · have := v0 e; omega
      · have := v1 e; omega
    rw [dFrom_step H hit, ih, es]
    simp only [List.flatMap_append, List.flatMap_cons]
    rw [List.flatMap_eq_nil_iff.2 hpre, hpost, hqe, enc_eq H hU hit, hke]
    simp [List.append_assoc]

theorem cont_eq (H : It → Nat → List Int) {its : List It} (hU : UpOk its its.length) {k : Nat} {it : It} (hit : its[k]? = some it) : cont H its k it = it.z ++ eFrom H its k (k + 1) := by
  have hk := (List.getElem?_eq_some_iff.1 hit).1
  unfold cont eFrom
  rw [kidsFrom_skip (k + 1) 0 (by omega) (by omega) (fun j _ hj hp => ?_)]
  obtain ⟨jt, hjt⟩ : ∃ jt, its[j]? = some jt := ⟨_, List.getElem?_eq_getElem (by omega)⟩
  rw [pOf_some hjt] at hp
  obtain ⟨v0, v1⟩ := hU j jt (by omega) hjt
  rcases Nat.eq_zero_or_pos j with e | e
  · have := v0 e; omega
  · have := v1 e; omega

/-- All items in order are the first one with all in it. -/
theorem all_eq (H : It → Nat → List Int) {its : List It} (hU : UpOk its its.length) (hL : LineOk its) (h0 : 0 < its.length) : dFrom H its 0 = enc H its 0 := by
  obtain ⟨it, hit⟩ : ∃ it, its[0]? = some it := ⟨_, List.getElem?_eq_getElem h0⟩
  obtain ⟨u0, _⟩ := hU 0 it h0 hit
  have hw : IsWay its ((0 : Nat) : Int) [0] := ⟨rfl, it, hit, by have := u0 rfl; omega, by have := u0 rfl; omega, u0 rfl⟩
  have e1 : upL its (((1 : Nat) : Int) - 1) = [0] := (way_at hU h0).unique hw
  have hs := suffix_eq H hU hL (its.length - 1) 1 (by omega) (by omega)
  rw [e1] at hs
  rw [dFrom_step H hit, enc_eq H hU hit, cont_eq H hU hit, hs]
  simp [List.append_assoc]

end Go.Proofs.YtldiilmpmcbjkaaGreatDoor

/- What is proved here: plain facts on items without a fault that are written as bytes: the program's heads and the model's give the same bytes, or both give more than 1200; no program is named. -/
namespace Go.Proofs.YtldiilmpmcbjkaaGreatDoor
open Go.RowKit
set_option linter.unusedVariables false
set_option maxRecDepth 100000

theorem fltFrom_zero (its : List It) : ∀ (r : List It) (k : Nat), fltFrom its k r = 0 → ∀ i it, r[i]? = some it → fltAt its (k + i) it = 0
  | [], _, _, i, it, h => by simp at h
  | a :: r, k, hz, i, it, h => by
    unfold fltFrom at hz
    split at hz
    · cases i with
      | zero => simp at h; subst h; assumption
      | succ i =>
        have := fltFrom_zero its r (k + 1) hz i it (by simpa using h)
        rwa [show k + 1 + i = k + (i + 1) by omega] at this
    · exact absurd hz (by assumption)

/-- Items without a fault. -/
structure NoFault (its : List It) : Prop where
  some : 0 < its.length
  few : its.length ≤ 200
  up : UpOk its its.length
  line : LineOk its
  small : ∀ it ∈ its, it.z.length ≤ 300
  empty : ∀ it ∈ its, it.l = true → it.z = []
  leaf : ∀ (k : Nat) (it : It), its[k]? = Option.some it → it.l = false → ∀ m, kidsFrom its (k : Int) m = []

theorem noFault_of {its : List It} (h : itemsFlt its = 0) : NoFault its := by
  unfold itemsFlt at h
  split at h
  · omega
  · rename_i hlen
    have all : ∀ (i : Nat) (it : It), its[i]? = some it → fltAt its i it = 0 := fun i it hi => by
      have := fltFrom_zero its its 0 h i it hi
      rwa [Nat.zero_add] at this
    have hU : UpOk its its.length := fun j it _ hit => fltAt_up (all j it hit)
    have each : ∀ (k : Nat) (it : It), its[k]? = some it → (it.l = true → it.z = []) ∧ it.z.length ≤ 300 ∧ (0 < k → lAt its it.p.toNat = true ∧ it.p.toNat ∈ upL its ((k : Int) - 1)) := by
      intro k it hit
      have hz := all k it hit
      unfold fltAt at hz
      split at hz
      · omega
      · rename_i n1
        split at hz
        · omega
        · rename_i n2
          refine ⟨fun hl => ?_, by omega, fun hk => ?_⟩
          · have : ¬ 0 < it.z.length := fun hh => n1 ⟨hl, hh⟩
            exact List.length_eq_zero_iff.1 (by omega)
          · rw [if_neg (by omega)] at hz
            split at hz
            · omega
            · split at hz
              · assumption
              · omega
    refine ⟨by omega, by omega, hU, fun k it hk hit => ((each k it hit).2.2 hk).2, fun it hi => ?_, fun it hi => ?_, fun k it hit hl m => ?_⟩
    · obtain ⟨k, hk⟩ := List.getElem?_of_mem hi
      exact (each k it hk).2.1
    · obtain ⟨k, hk⟩ := List.getElem?_of_mem hi
      exact (each k it hk).1
    · apply kidsFrom_nil
      intro j _ hj hp
      obtain ⟨jt, hjt⟩ : ∃ jt, its[j]? = some jt := ⟨_, List.getElem?_eq_getElem hj⟩
      rw [pOf_some hjt] at hp
      obtain ⟨u0, u1⟩ := hU j jt hj hjt
      have hj0 : 0 < j := by rcases Nat.eq_zero_or_pos j with e | e; have := u0 e; omega; exact e
      have := ((each j jt hjt).2.2 hj0).1
      rw [hp, Int.toNat_natCast] at this
      unfold lAt at this
      rw [hit] at this
      simp only at this
      rw [hl] at this
      cases this

theorem le_flatMap {α : Type} {l : List α} {f : α → List Int} {x : α} (h : x ∈ l) : (f x).length ≤ (l.flatMap f).length := by
  induction l with
  | nil => simp at h
  | cons a r ih =>
    rw [List.flatMap_cons, List.length_append]
    rcases List.mem_cons.1 h with e | e
    · subst e; omega
    · have := ih e; omega

theorem enc_ge_cont (H : It → Nat → List Int) {its : List It} (hU : UpOk its its.length) {i : Nat} {it : It} (hit : its[i]? = some it) : (cont H its i it).length ≤ (enc H its i).length := by
  rw [enc_eq H hU hit, List.length_append]; omega

theorem kid_le (H : It → Nat → List Int) {its : List It} {i j : Nat} {it : It} (h : j ∈ kidsFrom its (i : Int) 0) : (enc H its j).length ≤ (cont H its i it).length := by
  unfold cont
  rw [List.length_append]
  have := le_flatMap (f := enc H its) h
  omega

theorem enc_same {its : List It} (hU : UpOk its its.length) : ∀ (n i : Nat) (it : It), its.length ≤ i + n → its[i]? = some it → (cont hdS its i it).length ≤ 1200 → enc hdI its i = enc hdS its i ∧ cont hdI its i it = cont hdS its i it
  | 0, i, it, hn, hit, _ => by have := (List.getElem?_eq_some_iff.1 hit).1; omega
  | n + 1, i, it, hn, hit, hc => by
    have e : (kidsFrom its i 0).flatMap (enc hdI its) = (kidsFrom its i 0).flatMap (enc hdS its) := flatMap_eq (fun j hj => by
      obtain ⟨h1, h2⟩ := kid_later hU hj
      obtain ⟨jt, hjt⟩ : ∃ jt, its[j]? = some jt := ⟨_, List.getElem?_eq_getElem h2⟩
      have hl := kid_le hdS (it := it) hj
      have hg := enc_ge_cont hdS hU hjt
      exact (enc_same hU n j jt (by omega) hjt (by omega)).1)
    have ec : cont hdI its i it = cont hdS its i it := by unfold cont; rw [e]
    exact ⟨by rw [enc_eq hdI hU hit, enc_eq hdS hU hit, ec, hd_same it _ hc], ec⟩

theorem enc_great {its : List It} (hU : UpOk its its.length) : ∀ (n i : Nat) (it : It), its.length ≤ i + n → its[i]? = some it → 1200 < (cont hdS its i it).length → 1200 < (enc hdI its i).length
  | 0, i, it, hn, hit, _ => by have := (List.getElem?_eq_some_iff.1 hit).1; omega
  | n + 1, i, it, hn, hit, hc => by
    by_cases hall : ∀ j ∈ kidsFrom its (i : Int) 0, ∀ jt, its[j]? = some jt → (cont hdS its j jt).length ≤ 1200
    · have e : (kidsFrom its i 0).flatMap (enc hdI its) = (kidsFrom its i 0).flatMap (enc hdS its) := flatMap_eq (fun j hj => by
        obtain ⟨h1, h2⟩ := kid_later hU hj
        obtain ⟨jt, hjt⟩ : ∃ jt, its[j]? = some jt := ⟨_, List.getElem?_eq_getElem h2⟩
        exact (enc_same hU its.length j jt (by omega) hjt (hall j hj jt hjt)).1)
      have ec : cont hdI its i it = cont hdS its i it := by unfold cont; rw [e]
      have := enc_ge_cont hdI hU hit
      rw [ec] at this
      omega
    · have : ∃ j, j ∈ kidsFrom its (i : Int) 0 ∧ ∃ jt, its[j]? = some jt ∧ 1200 < (cont hdS its j jt).length := by
        refine Classical.byContradiction fun hno => hall fun j hj jt hjt => ?_
        refine Nat.le_of_not_lt fun hlt => hno ⟨j, hj, jt, hjt, hlt⟩
      obtain ⟨j, hj, jt, hjt, hlt⟩ := this
      have h1 := (kid_later hU hj).1
      have h2 := enc_great hU n j jt (by omega) hjt hlt
      have h3 := kid_le hdI (it := it) hj
      have h4 := enc_ge_cont hdI hU hit
      omega

theorem dN_le (H : It → Nat → List Int) (hH : ∀ it n, (H it n).length ≤ 8) {its : List It} (hs : ∀ it ∈ its, it.z.length ≤ 300) : ∀ n k, (dN H its n k).length ≤ 308 * n
  | 0, _ => by simp [dN]
  | n + 1, k => by
    unfold dN
    rw [List.length_append]
    have ih := dN_le H hH hs n (k + 1)
    cases hit : its[k]? with
    | none => simp; omega
    | some it =>
      simp only [List.length_append]
      have h1 := hH it (cont H its k it).length
      have h2 := hs it (List.mem_of_getElem? hit)
      omega

theorem kids_later_le (H : It → Nat → List Int) {its : List It} (x : Nat) : ∀ (m k : Nat), k ≤ m → m ≤ its.length → (eFrom H its x m).length ≤ (eFrom H its x k).length
  | 0, k, h, _ => by
    obtain rfl : k = 0 := by omega
    exact Nat.le_refl _
  | m + 1, k, h, hm => by
    by_cases e : k = m + 1
    · subst e; exact Nat.le_refl _
    · refine Nat.le_trans ?_ (kids_later_le H x m k (by omega) (by omega))
      unfold eFrom
      by_cases hp : pOf its m = (x : Int)
      · rw [kidsFrom_yes (by omega) hp, List.flatMap_cons, List.length_append]; omega
      · rw [kidsFrom_no (by omega) hp]; exact Nat.le_refl _

theorem eFrom_le (H : It → Nat → List Int) (hH : ∀ it n, (H it n).length ≤ 8) {its : List It} (N : NoFault its) (i k : Nat) (hi : i < its.length) (hk : i < k) (hkl : k ≤ its.length) : (eFrom H its i k).length ≤ 61600 := by
  have h1 := kids_later_le H (its := its) i k (i + 1) (by omega) hkl
  have h2 := suffix_eq H N.up N.line (its.length - (i + 1)) (i + 1) (by omega) (by omega)
  have hm : i ∈ upL its (((i + 1 : Nat) : Int) - 1) := by
    rw [show ((i + 1 : Nat) : Int) - 1 = (i : Int) by omega]
    have hw := way_at N.up hi
    generalize upL its (i : Int) = ws at hw
    cases ws with
    | nil => have : (i : Int) = -1 := hw; omega
    | cons a r => obtain ⟨e, _⟩ := hw; simp; omega
  have h3 := le_flatMap (f := fun x => eFrom H its x (i + 1)) hm
  rw [← h2] at h3
  have h4 := dN_le H hH N.small (its.length - (i + 1)) (i + 1)
  have h5 := N.few
  have : (dFrom H its (i + 1)).length ≤ 308 * (its.length - (i + 1)) := h4
  omega

theorem cont_le (H : It → Nat → List Int) (hH : ∀ it n, (H it n).length ≤ 8) {its : List It} (N : NoFault its) {i : Nat} {it : It} (hit : its[i]? = some it) : (cont H its i it).length ≤ 61900 := by
  have hl := (List.getElem?_eq_some_iff.1 hit).1
  rw [cont_eq H N.up hit, List.length_append]
  have := eFrom_le H hH N i (i + 1) hl (by omega) (by omega)
  have := N.small it (List.mem_of_getElem? hit)
  omega

theorem enc_le (H : It → Nat → List Int) (hH : ∀ it n, (H it n).length ≤ 8) {its : List It} (N : NoFault its) {i : Nat} {it : It} (hit : its[i]? = some it) : (enc H its i).length ≤ 61908 := by
  rw [enc_eq H N.up hit, List.length_append]
  have := cont_le H hH N hit
  have := hH it (cont H its i it).length
  omega

/-- What EncodeItems answers: its code and its bytes. -/
def enCode (its : List It) : Int := if itemsFlt its = 0 then (if 1200 < (enc hdS its 0).length then 2 else 0) else itemsFlt its
def enBytes (its : List It) : List Int := if itemsFlt its = 0 ∧ (enc hdS its 0).length ≤ 1200 then enc hdS its 0 else []

/-- The program's bytes: the same, or both too many. -/
theorem enc_tie {its : List It} (N : NoFault its) : (1200 < (enc hdS its 0).length → 1200 < (dFrom hdI its 0).length) ∧ ((enc hdS its 0).length ≤ 1200 → dFrom hdI its 0 = enc hdS its 0) := by
  have h0 := N.some
  obtain ⟨it, hit⟩ : ∃ it, its[0]? = some it := ⟨_, List.getElem?_eq_getElem h0⟩
  rw [all_eq hdI N.up N.line h0]
  by_cases hc : (cont hdS its 0 it).length ≤ 1200
  · have := (enc_same N.up its.length 0 it (by omega) hit hc).1
    rw [this]
    exact ⟨fun h => h, fun _ => rfl⟩
  · have h1 := enc_great N.up its.length 0 it (by omega) hit (by omega)
    have h2 := enc_ge_cont hdS N.up hit
    exact ⟨fun _ => h1, fun h => by omega⟩

theorem hdS_range (it : It) (n : Nat) (h : n < 16777216) : ∀ x ∈ hdS it n, 0 ≤ x ∧ x ≤ 255 := by
  unfold hdS; split
  · intro x hx; simp at hx
  · exact headL_range _ _ (by omega) (by omega)

theorem enc_range {its : List It} (N : NoFault its) (hz : ∀ it ∈ its, ∀ x ∈ it.z, 0 ≤ x ∧ x ≤ 255) : ∀ (n i : Nat), its.length ≤ i + n → ∀ x ∈ enc hdS its i, 0 ≤ x ∧ x ≤ 255
  | n, i, hn, x, hx => by
    cases hit : its[i]? with
    | none =>
      unfold enc at hx
      have hl : its.length ≤ i := List.getElem?_eq_none_iff.1 hit
      rw [encH_fuel hdS N.up its.length 0 i (by omega) (by omega)] at hx
      simp [encH] at hx
    | some it =>
      have hl := (List.getElem?_eq_some_iff.1 hit).1
      rw [enc_eq hdS N.up hit] at hx
      rcases List.mem_append.1 hx with e | e
      · exact hdS_range it _ (by have := cont_le hdS hdS_length N hit; omega) x e
      · unfold cont at e
        rcases List.mem_append.1 e with e' | e'
        · exact hz it (List.mem_of_getElem? hit) x e'
        · obtain ⟨j, hj, hxj⟩ := List.mem_flatMap.1 e'
          have h1 := kid_later N.up hj
          cases n with
          | zero => omega
          | succ n => exact enc_range N hz n j (by omega) x hxj

theorem enBytes_range (its : List It) (hz : ∀ it ∈ its, ∀ x ∈ it.z, 0 ≤ x ∧ x ≤ 255) : ∀ x ∈ enBytes its, 0 ≤ x ∧ x ≤ 255 := by
  unfold enBytes
  split
  · exact enc_range (noFault_of (by omega)) hz its.length 0 (by omega)
  · intro x hx; simp at hx

theorem enBytes_length (its : List It) : (enBytes its).length ≤ 1200 := by
  unfold enBytes
  split
  · omega
  · simp

end Go.Proofs.YtldiilmpmcbjkaaGreatDoor

/- What is proved here: the items of a header without a fault have none, and encoded they are its bytes; no program is named. -/
namespace Go.Proofs.YtldiilmpmcbjkaaGreatDoor
open Go.RowKit
set_option linter.unusedVariables false
set_option maxRecDepth 100000

/-- A leaf and a list. -/
def lf (p : Int) (z : List Int) : It := ⟨false, p, z⟩
def ls (p : Int) : It := ⟨true, p, []⟩

def hA (h : Hd) : List It := [ls (-1), lf 0 h.p, lf 0 (shortF 7 h.n1), lf 0 (shortF 7 h.n2), lf 0 (shortF 7 h.n3), lf 0 h.t, lf 0 (shortF 7 h.n5), ls 0]
def hC (h : Hd) : List It := [lf 0 h.r, lf 0 h.g, lf 0 h.e, ls 0]

/-- The items of a header. -/
def hIts (h : Hd) : List It := hA h ++ h.s.map (lf 7) ++ hC h ++ h.k.map (lf ((11 + h.s.length : Nat) : Int))

theorem hIts_len (h : Hd) : (hIts h).length = 12 + h.s.length + h.k.length := by
  unfold hIts hA hC
  simp
  omega

theorem at_A (h : Hd) (j : Nat) (hj : j < 8) : (hIts h)[j]? = (hA h)[j]? := by
  unfold hIts
  have hl : (hA h).length = 8 := rfl
  rw [List.getElem?_append_left (by simp; omega), List.getElem?_append_left (by simp; omega), List.getElem?_append_left (by omega)]

theorem at_S (h : Hd) (i : Nat) (hi : i < h.s.length) : (hIts h)[8 + i]? = some (lf 7 h.s[i]) := by
  unfold hIts
  have hl : (hA h).length = 8 := rfl
  rw [List.getElem?_append_left (by simp; omega), List.getElem?_append_left (by simp; omega), List.getElem?_append_right (by omega), hl, Nat.add_sub_cancel_left]
  simp [hi]

theorem at_C (h : Hd) (i : Nat) (hi : i < 4) : (hIts h)[8 + h.s.length + i]? = (hC h)[i]? := by
  unfold hIts
  have hl : (hA h).length = 8 := rfl
  have hc : (hC h).length = 4 := rfl
  rw [List.getElem?_append_left (by simp; omega), List.getElem?_append_right (by simp; omega)]
  congr 1
  simp
  omega

theorem at_K (h : Hd) (i : Nat) (hi : i < h.k.length) : (hIts h)[12 + h.s.length + i]? = some (lf ((11 + h.s.length : Nat) : Int) h.k[i]) := by
  unfold hIts
  have hl : (hA h).length = 8 := rfl
  have hc : (hC h).length = 4 := rfl
  have e : 12 + h.s.length + i - (hA h ++ h.s.map (lf 7) ++ hC h).length = i := by simp; omega
  rw [List.getElem?_append_right (by simp; omega), e]
  simp [hi]

/-- What each item is. -/
theorem cls {h : Hd} (gd : HGood h) (j : Nat) (it : It) (hit : (hIts h)[j]? = some it) :
    (j = 0 ∧ it = ls (-1)) ∨ (1 ≤ j ∧ j ≤ 6 ∧ ∃ z, it = lf 0 z ∧ z.length ≤ 300) ∨ (j = 7 ∧ it = ls 0) ∨ (8 ≤ j ∧ j < 8 + h.s.length ∧ ∃ z, it = lf 7 z ∧ z.length ≤ 300) ∨
    (8 + h.s.length ≤ j ∧ j < 11 + h.s.length ∧ ∃ z, it = lf 0 z ∧ z.length ≤ 300) ∨ (j = 11 + h.s.length ∧ it = ls 0) ∨
    (12 + h.s.length ≤ j ∧ j < 12 + h.s.length + h.k.length ∧ ∃ z, it = lf ((11 + h.s.length : Nat) : Int) z ∧ z.length ≤ 300) := by
  have hl := (List.getElem?_eq_some_iff.1 hit).1
  rw [hIts_len] at hl
  have s1 := sh_length h.n1
  have s2 := sh_length h.n2
  have s3 := sh_length h.n3
  have s5 := sh_length h.n5
  have g1 := gd.p
  have g2 := gd.t
  have g3 := gd.r
  have g4 := gd.g
  have g5 := gd.e
  rcases Nat.lt_or_ge j 8 with h8 | h8
  · rw [at_A h j h8] at hit
    match j, h8 with
    | 0, _ => left; exact ⟨rfl, by simpa [hA] using hit.symm⟩
    | 1, _ => right; left; exact ⟨by omega, by omega, h.p, by simpa [hA] using hit.symm, by omega⟩
    | 2, _ => right; left; exact ⟨by omega, by omega, shortF 7 h.n1, by simpa [hA] using hit.symm, by omega⟩
    | 3, _ => right; left; exact ⟨by omega, by omega, shortF 7 h.n2, by simpa [hA] using hit.symm, by omega⟩
    | 4, _ => right; left; exact ⟨by omega, by omega, shortF 7 h.n3, by simpa [hA] using hit.symm, by omega⟩
    | 5, _ => right; left; exact ⟨by omega, by omega, h.t, by simpa [hA] using hit.symm, by omega⟩
    | 6, _ => right; left; exact ⟨by omega, by omega, shortF 7 h.n5, by simpa [hA] using hit.symm, by omega⟩
    | 7, _ => right; right; left; exact ⟨rfl, by simpa [hA] using hit.symm⟩
  · rcases Nat.lt_or_ge j (8 + h.s.length) with hs | hs
    · obtain ⟨i, rfl⟩ : ∃ i, j = 8 + i := ⟨j - 8, by omega⟩
      rw [at_S h i (by omega)] at hit
      have hz := gd.sz h.s[i] (List.getElem_mem _)
      right; right; right; left
      exact ⟨by omega, by omega, _, (Option.some.inj hit).symm, by omega⟩
    · rcases Nat.lt_or_ge j (12 + h.s.length) with hc | hc
      · obtain ⟨i, rfl⟩ : ∃ i, j = 8 + h.s.length + i := ⟨j - (8 + h.s.length), by omega⟩
        rw [at_C h i (by omega)] at hit
        have hi : i < 4 := by omega
        match i, hi with
        | 0, _ => right; right; right; right; left; exact ⟨by omega, by omega, h.r, by simpa [hC] using hit.symm, by omega⟩
        | 1, _ => right; right; right; right; left; exact ⟨by omega, by omega, h.g, by simpa [hC] using hit.symm, by omega⟩
        | 2, _ => right; right; right; right; left; exact ⟨by omega, by omega, h.e, by simpa [hC] using hit.symm, by omega⟩
        | 3, _ => right; right; right; right; right; left; exact ⟨by omega, by simpa [hC] using hit.symm⟩
      · obtain ⟨i, rfl⟩ : ∃ i, j = 12 + h.s.length + i := ⟨j - (12 + h.s.length), by omega⟩
        rw [at_K h i (by omega)] at hit
        have hz := gd.kz h.k[i] (List.getElem_mem _)
        right; right; right; right; right; right
        exact ⟨by omega, by omega, _, (Option.some.inj hit).symm, by omega⟩

theorem it_at (h : Hd) (j : Nat) (hj : j < 12 + h.s.length + h.k.length) : ∃ it, (hIts h)[j]? = some it := ⟨_, List.getElem?_eq_getElem (by rw [hIts_len]; exact hj)⟩

theorem way0 (h : Hd) : IsWay (hIts h) ((0 : Nat) : Int) [0] := ⟨rfl, ls (-1), at_A h 0 (by omega), by show (-1 : Int) ≤ -1; omega, by show (-1 : Int) < ((0 : Nat) : Int); omega, rfl⟩

theorem way_up (h : Hd) {j q : Nat} {it : It} {ws : List Nat} (hit : (hIts h)[j]? = some it) (hp : it.p = (q : Int)) (hq : q < j) (hw : IsWay (hIts h) (q : Int) ws) : IsWay (hIts h) (j : Int) (j :: ws) :=
  ⟨rfl, it, hit, by omega, by omega, by rw [hp]; exact hw⟩

theorem way7 (h : Hd) : IsWay (hIts h) ((7 : Nat) : Int) [7, 0] := way_up (q := 0) h (at_A h 7 (by omega)) rfl (by omega) (way0 h)
theorem way11 (h : Hd) : IsWay (hIts h) ((11 + h.s.length : Nat) : Int) [11 + h.s.length, 0] := way_up (q := 0) h (by have := at_C h 3 (by omega); rw [show 8 + h.s.length + 3 = 11 + h.s.length by omega] at this; exact this) rfl (by omega) (way0 h)

/-- The way up from each item. -/
theorem way_all {h : Hd} (gd : HGood h) (j : Nat) (hj : j < 12 + h.s.length + h.k.length) : ∃ ws, IsWay (hIts h) (j : Int) ws ∧ 0 ∈ ws ∧ ws.length ≤ 3 ∧ (7 ≤ j → j < 8 + h.s.length → 7 ∈ ws) ∧ (11 + h.s.length ≤ j → 11 + h.s.length ∈ ws) := by
  obtain ⟨it, hit⟩ := it_at h j hj
  rcases cls gd j it hit with ⟨rfl, rfl⟩ | ⟨h1, h2, z, rfl, _⟩ | ⟨rfl, rfl⟩ | ⟨h1, h2, z, rfl, _⟩ | ⟨h1, h2, z, rfl, _⟩ | ⟨rfl, rfl⟩ | ⟨h1, h2, z, rfl, _⟩
  · exact ⟨[0], way0 h, by simp, by simp, fun a => by omega, fun a => by omega⟩
  · exact ⟨[j, 0], way_up (q := 0) h hit rfl (by omega) (way0 h), by simp, by simp, fun a => by omega, fun a => by omega⟩
  · exact ⟨[7, 0], way7 h, by simp, by simp, fun _ _ => by simp, fun a => by omega⟩
  · exact ⟨[j, 7, 0], way_up (q := 7) h hit rfl (by omega) (way7 h), by simp, by simp, fun _ _ => by simp, fun a => by omega⟩
  · exact ⟨[j, 0], way_up (q := 0) h hit rfl (by omega) (way0 h), by simp, by simp, fun _ a => by omega, fun a => by omega⟩
  · exact ⟨[11 + h.s.length, 0], way11 h, by simp, by simp, fun _ a => by omega, fun _ => by simp⟩
  · exact ⟨[j, 11 + h.s.length, 0], way_up (q := 11 + h.s.length) h hit rfl (by omega) (way11 h), by simp, by simp, fun _ a => by omega, fun _ => by simp⟩

theorem lAt_of {h : Hd} {q : Nat} {p : Int} (hq : (hIts h)[q]? = some (ls p)) : lAt (hIts h) q = true := by unfold lAt; rw [hq]; rfl

theorem flt_leaf {h : Hd} (gd : HGood h) {j q : Nat} {l : Bool} {z : List Int} (hz : z.length ≤ 300) (hlz : l = true → z = []) (hj : j < 12 + h.s.length + h.k.length) (hq : q < j) (hl : lAt (hIts h) q = true) (hup : ∀ ws, IsWay (hIts h) (((j - 1 : Nat) : Nat) : Int) ws → q ∈ ws) (hit : (hIts h)[j]? = some ⟨l, (q : Int), z⟩) :
    fltAt (hIts h) j ⟨l, (q : Int), z⟩ = 0 := by
  obtain ⟨ws, w1, w2, w3, _⟩ := way_all gd j hj
  obtain ⟨vs, v1, _⟩ := way_all gd (j - 1) (by omega)
  have e1 : (j : Int) - 1 = ((j - 1 : Nat) : Int) := by omega
  unfold fltAt
  rw [if_neg (fun hh => by rw [hlz hh.1] at hh; simp at hh), if_neg (by show ¬ 300 < z.length; omega), if_neg (by omega), if_neg (by show ¬ ((q : Int) < 0 ∨ (j : Int) ≤ (q : Int)); omega)]
  show (if lAt (hIts h) (q : Int).toNat = true ∧ (q : Int).toNat ∈ upL (hIts h) ((j : Int) - 1) then (if 5 < (upL (hIts h) j).length then 2 else 0) else 1) = 0
  rw [Int.toNat_natCast, e1, v1.up (by rw [hIts_len]; omega), if_pos ⟨hl, hup vs v1⟩, w1.up (by rw [hIts_len]; omega), if_neg (by omega)]

theorem hIts_flt {h : Hd} (gd : HGood h) : itemsFlt (hIts h) = 0 := by
  have hs := gd.s
  have hk := gd.k
  unfold itemsFlt
  rw [if_neg (by rw [hIts_len]; omega)]
  have l0 : lAt (hIts h) 0 = true := lAt_of (at_A h 0 (by omega))
  have l7 : lAt (hIts h) 7 = true := lAt_of (at_A h 7 (by omega))
  have l11 : lAt (hIts h) (11 + h.s.length) = true := lAt_of (p := 0) (by have := at_C h 3 (by omega); rw [show 8 + h.s.length + 3 = 11 + h.s.length by omega] at this; exact this)
  have u0 : ∀ j, j < 12 + h.s.length + h.k.length → ∀ ws, IsWay (hIts h) ((j : Nat) : Int) ws → 0 ∈ ws := fun j hj ws hw => by
    obtain ⟨vs, v1, v2, _⟩ := way_all gd j hj
    rw [hw.unique v1]; exact v2
  have all : ∀ j it, (hIts h)[j]? = some it → fltAt (hIts h) j it = 0 := fun j it hit => by
    have hj : j < 12 + h.s.length + h.k.length := by have := (List.getElem?_eq_some_iff.1 hit).1; rwa [hIts_len] at this
    rcases cls gd j it hit with ⟨rfl, rfl⟩ | ⟨h1, h2, z, rfl, hz⟩ | ⟨rfl, rfl⟩ | ⟨h1, h2, z, rfl, hz⟩ | ⟨h1, h2, z, rfl, hz⟩ | ⟨rfl, rfl⟩ | ⟨h1, h2, z, rfl, hz⟩
    · rfl
    · exact flt_leaf gd (q := 0) hz (fun e => by cases e) hj (by omega) l0 (u0 (j - 1) (by omega)) hit
    · exact flt_leaf gd (q := 0) (by simp) (fun _ => rfl) hj (by omega) l0 (u0 (7 - 1) (by omega)) hit
    · exact flt_leaf gd (q := 7) hz (fun e => by cases e) hj (by omega) l7 (fun ws hw => by
        obtain ⟨vs, v1, _, _, v4, _⟩ := way_all gd (j - 1) (by omega)
        rw [hw.unique v1]; exact v4 (by omega) (by omega)) hit
    · exact flt_leaf gd (q := 0) hz (fun e => by cases e) hj (by omega) l0 (u0 (j - 1) (by omega)) hit
    · exact flt_leaf gd (q := 0) (by simp) (fun _ => rfl) hj (by omega) l0 (u0 (11 + h.s.length - 1) (by omega)) hit
    · exact flt_leaf gd (q := 11 + h.s.length) hz (fun e => by cases e) hj (by omega) l11 (fun ws hw => by
        obtain ⟨vs, v1, _, _, _, v5⟩ := way_all gd (j - 1) (by omega)
        rw [hw.unique v1]; exact v5 (by omega)) hit
  have from0 : ∀ (n k : Nat), k + n = (hIts h).length → fltFrom (hIts h) k ((hIts h).drop k) = 0 := by
    intro n
    induction n with
    | zero => intro k e; exact fltFrom_end _ _ (by omega)
    | succ n ih =>
      intro k e
      obtain ⟨it, hit⟩ := it_at h k (by rw [hIts_len] at e; omega)
      rw [fltFrom_step _ k it hit, if_pos (all k it hit)]
      exact ih (k + 1) (by omega)
  simpa using from0 (hIts h).length 0 (by omega)

end Go.Proofs.YtldiilmpmcbjkaaGreatDoor
