/- What is proved here: plain facts on a state of 25 lanes and on one round of its mixing; no program is named. -/
import Derived.Test.YtdmcmlcmgbbclaaGreatJ19
import Derived.Test.YtdmcmlcmgbbclaaGreatJ1
import Derived.Test.YtdmcmlcmgbbclaaGreatJ8
import Derived.Test.YtdmcmlcmgbbclaaGreatChecked
import Derived.Test.YtdmcmlcmgbbclaaGreatJ16
import Derived.WalkKit
import Derived.WalkLawsBesides
import Derived.WalkSmall
import Derived.WalkSpells
import Derived.KernelRfl
import Derived.OpenShut
namespace Go.Proofs.YtdmcmlcmgbbclaaGreat
set_option linter.unusedVariables false
set_option linter.unusedSimpArgs false
open Go.RowKit
set_option maxRecDepth 100000

/-- 25 lanes of 64 bits. -/
def Lanes (Z : List Nat) : Prop := Z.length = 25 ∧ ∀ x ∈ Z, x < 18446744073709551616

/-- The columns' sums behind k lanes. -/
def colAt (Z : List Nat) (k : Nat) : List Nat := (List.range k).foldl (fun C j => C.set (j % 5) (C.getD (j % 5) 0 ^^^ Z.getD j 0)) (List.replicate 5 0)

/-- What a column's lanes are xored with. -/
def dOf (C : List Nat) (x : Nat) : Nat := C.getD ((x + 4) % 5) 0 ^^^ rotL (C.getD ((x + 1) % 5) 0) 1

/-- The step with C and D. -/
def theta (Z : List Nat) : List Nat := (List.range 25).map fun i => Z.getD i 0 ^^^ dOf (colAt Z 25) (i % 5)

/-- The offsets of the lanes. -/
def offN : List Nat := [0, 1, 62, 28, 27, 36, 44, 6, 55, 20, 3, 10, 43, 25, 39, 41, 45, 15, 21, 8, 18, 2, 61, 56, 14]

/-- Where a lane goes. -/
def posOf (k : Nat) : Nat := k / 5 + 5 * ((2 * (k % 5) + 3 * (k / 5)) % 5)

/-- The lanes that were moved, behind k of them. -/
def bAt (T : List Nat) (k : Nat) : List Nat := (List.range k).foldl (fun B j => B.set (posOf j) (rotL (T.getD j 0) (offN.getD j 0))) (List.replicate 25 0)

/-- One lane of the last step. -/
def chiOf (B : List Nat) (i : Nat) : Nat := B.getD i 0 ^^^ ((18446744073709551615 - B.getD (i - i % 5 + (i % 5 + 1) % 5) 0) &&& B.getD (i - i % 5 + (i % 5 + 2) % 5) 0)

def chi (B : List Nat) : List Nat := (List.range 25).map (chiOf B)

/-- One round but for its constant. -/
def roundF (Z : List Nat) : List Nat := chi (bAt (theta Z) 25)

/-- The constants of the rounds. -/
def rcs : List Nat := [1, 32898, 9223372036854808714, 9223372039002292224, 32907, 2147483649, 9223372039002292353, 9223372036854808585, 138, 136, 2147516425, 2147483658, 2147516555, 9223372036854775947, 9223372036854808713, 9223372036854808579, 9223372036854808578, 9223372036854775936, 32778, 9223372039002259466, 9223372039002292353, 9223372036854808704, 2147483649, 9223372039002292232]

def roundC (Z : List Nat) (c : Nat) : List Nat := (roundF Z).set 0 ((roundF Z).getD 0 0 ^^^ c)

/-- The state behind k rounds. -/
def mixAt (Z : List Nat) (k : Nat) : List Nat := (List.range k).foldl (fun S j => roundC S (rcs.getD j 0)) Z

/-- A state as words. -/
def wordsL (Z : List Nat) : List Int := Z.flatMap fun a => [(hiW a : Int), (loW a : Int)]

set_option maxRecDepth 100000

/-- How many bytes there are behind the padding. -/
def padLen (n : Nat) : Nat := 136 * (n / 136 + 1)

/-- The last byte of the padding. -/
def padLast (n : Nat) : Int := if n + 1 = padLen n then 129 else 128

/-- The bytes, a byte 1, and k zeros. -/
def padRaw (zs : List Int) (k : Nat) : List Int := zs ++ 1 :: List.replicate k 0

/-- Padded bytes. -/
def padB (zs : List Int) : List Int := (padRaw zs (padLen zs.length - zs.length - 1)).set (padLen zs.length - 1) (padLast zs.length)

set_option maxRecDepth 100000

/-- The k lowest bytes of a lane. -/
def lowB (b : Nat → Nat) : Nat → Nat
 | 0 => 0
 | k + 1 => lowB b k + b k * 2 ^ (8 * k)

/-- Byte i behind a place. -/
def byteN (bs : List Int) (p i : Nat) : Nat := (bs.getD (p + i) 0).toNat

/-- The lane that begins at a place of bytes. -/
def laneB (bs : List Int) (p : Nat) : Nat := lowB (byteN bs p) 8

/-- A block soaked into a state, lane by lane. -/
def soakAt (Z : List Nat) (bs : List Int) (p : Nat) : Nat → List Nat
 | 0 => Z
 | i + 1 => (soakAt Z bs p i).set i ((soakAt Z bs p i).getD i 0 ^^^ laneB bs (p + i * 8))

/-- The state behind n blocks. -/
def spAt (bs : List Int) : Nat → List Nat
 | 0 => List.replicate 25 0
 | n + 1 => mixAt (soakAt (spAt bs n) bs (136 * n) 17) 24

/-- The 32 bytes of a state. -/
def hashOf (Z : List Nat) : List Int := (List.range 32).map fun i => ((Z.getD (i / 8) 0 / 2 ^ (8 * (i % 8)) % 256 : Nat) : Int)

/-- What KeccakOf answers. -/
def kcCode (zs : List Int) : Int := if 1200 < zs.length then 2 else 0
def kcBytes (zs : List Int) : List Int := if 1200 < zs.length then [] else hashOf (spAt (padB zs) (padLen zs.length / 136))

set_option maxRecDepth 100000

/-- The first four bytes of a hash. -/
def sealL (a h : List Int) : List Int := (kcBytes (a ++ h)).take 4
def markL (a h : List Int) : List Int := (kcBytes (a ++ 1 :: h)).take 4

/-- The code of SealOf and CommitOf, and what they answer. -/
def slCode (a h : List Int) : Int := if a.length = 4 ∧ h.length = 32 then 0 else 1
def slBytes (a h : List Int) : List Int := if a.length = 4 ∧ h.length = 32 then sealL a h else []
def cmBytes (a h : List Int) : List Int := if a.length = 4 ∧ h.length = 32 then a ++ markL a h else []

set_option maxRecDepth 100000

set_option maxRecDepth 100000

set_option maxRecDepth 100000

set_option maxRecDepth 100000

/-- An item: whether it is a list, its parent, its bytes. -/
structure It where
 l : Bool
 p : Int
 z : List Int

/-- The item 'it' lies at three cells. -/
def ItAt (w : World) (b o : Nat) (it : It) : Prop :=
 ∃ sa sl sc, w.cell? ⟨b, o, none⟩ = some (.bool it.l) ∧ w.cell? ⟨b, o + 1, none⟩ = some (.int .i64 it.p) ∧ w.cell? ⟨b, o + 2, none⟩ = some (.slice sa sl sc) ∧ BRow w sa sl it.z

/-- What the numbers of an item keep to. -/
def ItOk (it : It) : Prop := -9223372036854775808 ≤ it.p ∧ it.p ≤ 9223372036854775807 ∧ it.z.length ≤ maxLen

/-- The slice 'a', of 'len' items, reads as 'its'. -/
def ItRow (w : World) (a : Option Addr) (len : Nat) (its : List It) : Prop :=
 its.length = len ∧ (∀ it ∈ its, ItOk it) ∧ (0 < len → ∃ b off, a = some ⟨b, off, none⟩ ∧ ∀ i it, its[i]? = some it → ItAt w b (off + i * 3) it)

theorem ItAt.lt {w : World} {b o : Nat} {it : It} (h : ItAt w b o it) : b < w.heap.size := by
 obtain ⟨_, _, _, h, _⟩ := h
 exact lt_of_cell h

theorem ItAt.below {w w' : World} {b o : Nat} {it : It} (h : ItAt w b o it) {B : Nat} (hb : Below B w w') (hB : w.heap.size ≤ B) : ItAt w' b o it := by
 have hl := Nat.lt_of_lt_of_le h.lt hB
 obtain ⟨sa, sl, sc, h1, h2, h3, h4⟩ := h
 exact ⟨sa, sl, sc, (hb.cell hl).trans h1, (hb.cell hl).trans h2, (hb.cell hl).trans h3, h4.below hb hB⟩

theorem ItRow.below {w w' : World} {a : Option Addr} {len : Nat} {its : List It} (h : ItRow w a len its) {B : Nat} (hb : Below B w w') (hB : w.heap.size ≤ B) : ItRow w' a len its := by
 refine ⟨h.1, h.2.1, fun hp => ?_⟩
 obtain ⟨b, off, e, k⟩ := h.2.2 hp
 exact ⟨b, off, e, fun i it hi => (k i it hi).below hb hB⟩

theorem ItRow.at {w : World} {a : Option Addr} {len : Nat} {its : List It} (h : ItRow w a len its) (hp : 0 < len) :
    ∃ b off, a = some ⟨b, off, none⟩ ∧ b < w.heap.size ∧ ∀ i it, its[i]? = some it → ItAt w b (off + i * 3) it := by
 obtain ⟨b, off, e, k⟩ := h.2.2 hp
 refine ⟨b, off, e, ?_, k⟩
 have hl : 0 < its.length := by rw [h.1]; exact hp
 exact (k 0 its[0] (List.getElem?_eq_getElem hl)).lt

theorem ItRow.bytes {w : World} {a : Option Addr} {len : Nat} {its : List It} (h : ItRow w a len its) : ∀ it ∈ its, ∀ x ∈ it.z, 0 ≤ x ∧ x ≤ 255 := by
 intro it hit
 obtain ⟨i, hi⟩ := List.getElem?_of_mem hit
 have hl := (List.getElem?_eq_some_iff.1 hi).1
 obtain ⟨b, off, _, k⟩ := h.2.2 (by rw [← h.1]; omega)
 obtain ⟨_, _, _, _, _, _, hb⟩ := k i it hi
 exact hb.2.1

set_option maxRecDepth 100000

/-- What is left of a number behind the bytes of items: below 0 at the first time: -1. -/
def szIts : Int → List It → Int
 | left, [] => left
 | left, it :: r => if left - it.z.length < 0 then -1 else szIts (left - it.z.length) r

def szAll (left : Int) (its : List It) : Int := if left - its.length < 0 then -1 else szIts (left - its.length) its

/-- All bytes of items. -/
def bytesOf (its : List It) : Nat := (its.map fun it => it.z.length).sum

/-- Whether two items, two lists of them, are the same. -/
def sameIt (a b : It) : Bool := a.l == b.l && a.p == b.p && sameB a.z b.z
def sameIts : List It → List It → Bool
 | [], [] => true
 | a :: ar, b :: bs => sameIt a b && sameIts ar bs
 | _, _ => false

set_option maxRecDepth 100000

/-- The places from one up to the first one: each one's parent is ahead of it; the first one's is -1. -/
def IsWay (its : List It) : Int → List Nat → Prop
 | a, [] => a = -1
 | a, k :: r => a = (k : Int) ∧ ∃ it, its[k]? = some it ∧ -1 ≤ it.p ∧ it.p < k ∧ IsWay its it.p r

/-- The same, reckoned. -/
def wayF (its : List It) : Nat → Int → List Nat
 | 0, _ => []
 | n + 1, a => if a < 0 then [] else match its[a.toNat]? with
  | none => []
  | some it => a.toNat :: wayF its n it.p

theorem IsWay.fuel {its : List It} : ∀ {xs : List Nat} {a : Int} {n : Nat}, IsWay its a xs → a < n → wayF its n a = xs
 | [], a, n, h, _ => by
  obtain rfl : a = -1 := h
  cases n <;> rfl
 | k :: r, a, 0, h, hn => by
  obtain ⟨rfl, _⟩ := h
  omega
 | k :: r, a, n + 1, h, hn => by
  obtain ⟨rfl, it, hit, _, hlt, hr⟩ := h
  unfold wayF
  rw [if_neg (by omega), Int.toNat_natCast, hit]
  show k :: wayF its n it.p = k :: r
  rw [hr.fuel (by omega)]

/-- The first K items have parents ahead of them. -/
def UpOk (its : List It) (K : Nat) : Prop := ∀ j it, j < K → its[j]? = some it → (j = 0 → it.p = -1) ∧ (0 < j → 0 ≤ it.p ∧ it.p < j)

theorem UpOk.way {its : List It} {K : Nat} (h : UpOk its K) (hK : K ≤ its.length) : ∀ (j : Nat), j < K → ∃ xs, IsWay its (j : Int) xs := by
 intro j
 induction j using Nat.strongRecOn with
 | ind j ih =>
  intro hj
  have hl : j < its.length := by omega
  obtain ⟨it, hit⟩ : ∃ it, its[j]? = some it := ⟨_, List.getElem?_eq_getElem hl⟩
  obtain ⟨h0, h1⟩ := h j it hj hit
  by_cases e : j = 0
  · subst e
    have hp := h0 rfl
    exact ⟨[0], rfl, it, hit, by omega, by omega, hp⟩
  · obtain ⟨p0, p1⟩ := h1 (by omega)
    obtain ⟨q, hq⟩ : ∃ q : Nat, it.p = (q : Int) := ⟨it.p.toNat, by omega⟩
    obtain ⟨xs, hx⟩ := ih q (by omega) (by omega)
    exact ⟨j :: xs, rfl, it, hit, by omega, p1, by rw [hq]; exact hx⟩

/-- The way up from a place. -/
def upL (its : List It) (a : Int) : List Nat := wayF its (its.length + 1) a

theorem IsWay.up {its : List It} {xs : List Nat} {a : Int} (h : IsWay its a xs) (ha : a ≤ its.length) : upL its a = xs := h.fuel (by omega)

def lAt (its : List It) (q : Nat) : Bool := match its[q]? with
 | none => false
 | some it => it.l

/-- The fault of the item at a place, those ahead of it having none. -/
def fltAt (its : List It) (i : Nat) (it : It) : Int :=
 if it.l = true ∧ 0 < it.z.length then 1
 else if 300 < it.z.length then 2
 else if i = 0 then (if it.p = -1 then 0 else 3)
 else if it.p < 0 ∨ (i : Int) ≤ it.p then 3
 else if lAt its it.p.toNat = true ∧ it.p.toNat ∈ upL its ((i : Int) - 1) then (if 5 < (upL its i).length then 2 else 0)
 else 1

/-- The first fault among the items from a place on. -/
def fltFrom (its : List It) : Nat → List It → Int
 | _, [] => 0
 | i, it :: r => if fltAt its i it = 0 then fltFrom its (i + 1) r else fltAt its i it

def itemsFlt (its : List It) : Int := if its.length < 1 ∨ 200 < its.length then 2 else fltFrom its 0 its

set_option maxRecDepth 100000

/-- The places below k whose parent is a given one. -/
def partsUp (its : List It) (at_ : Int) : Nat → List Int
 | 0 => []
 | k + 1 => partsUp its at_ k ++ (match its[k]? with
  | some it => if it.p = at_ then [(k : Int)] else []
  | none => [])

/-- What PartsOf answers: its code and its list. -/
def poCode (its : List It) (at_ : Int) : Int := if itemsFlt its = 0 then (if 0 ≤ at_ ∧ at_ ≤ (its.length : Int) - 1 then 0 else 3) else itemsFlt its
def poList (its : List It) (at_ : Int) : List Int := if itemsFlt its = 0 ∧ 0 ≤ at_ ∧ at_ ≤ (its.length : Int) - 1 then partsUp its at_ its.length else []

end Go.Proofs.YtdmcmlcmgbbclaaGreat
