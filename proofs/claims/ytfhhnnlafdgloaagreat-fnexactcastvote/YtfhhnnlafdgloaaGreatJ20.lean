/- What is proved here: plain facts on items written as bytes: told from the first one down, each with all in it, or in their order, each with its head; no program is named. -/
import Derived.Test.YtfhhnnlafdgloaaGreatJ19
import Derived.Test.YtfhhnnlafdgloaaGreatChecked
import Derived.Test.YtfhhnnlafdgloaaGreatJ8
import Derived.WalkKit
import Derived.WalkLawsBesides
import Derived.WalkSmall
import Derived.WalkSpells
import Derived.KernelRfl
import Derived.Test.YtfhhnnlafdgloaaGreatJ3
import Derived.Test.YtfhhnnlafdgloaaGreatJ1
import Derived.Test.YtfhhnnlafdgloaaGreatJ18
import Derived.Laws.AppendOwnNone
import Derived.Lib.SliceRun
import Derived.Test.YtfhhnnlafdgloaaGreatJ7
import Derived.Test.YtfhhnnlafdgloaaGreatJ4
import Derived.Maps.AppendAt
namespace Go.Proofs.YtfhhnnlafdgloaaGreat
open Go.RowKit
set_option linter.unusedVariables false
set_option maxRecDepth 100000

/-- The head of an item that has n bytes in it: in the model, and in the program, which has none for more than 1200. -/
def hdS (it : It) (n : Nat) : List Int := if it.l = false ∧ n = 1 ∧ it.z.getD 0 0 < 128 then [] else headL it.l n
def hdI (it : It) (n : Nat) : List Int := if it.l = false ∧ n = 1 ∧ it.z.getD 0 0 < 128 then [] else hdBytes it.l n

theorem hdS_length (it : It) (n : Nat) : (hdS it n).length ≤ 8 := by
  unfold hdS; split
  · simp
  · exact headL_length _ _

theorem hdI_length (it : It) (n : Nat) : (hdI it n).length ≤ 8 := by
  unfold hdI; split
  · simp
  · exact hdBytes_length _ _

theorem hd_same (it : It) (n : Nat) (h : n ≤ 1200) : hdI it n = hdS it n := by
  unfold hdI hdS
  split
  · rfl
  · unfold hdBytes; rw [if_pos (by omega)]

/-- The parent of a place; that of none is -2. -/
def pOf (its : List It) (j : Nat) : Int := match its[j]? with
  | some it => it.p
  | none => -2

/-- The places from k on, n of them, whose parent is x. -/
def kidsN (its : List It) (x : Int) : Nat → Nat → List Nat
  | 0, _ => []
  | n + 1, k => (if pOf its k = x then [k] else []) ++ kidsN its x n (k + 1)

def kidsFrom (its : List It) (x : Int) (k : Nat) : List Nat := kidsN its x (its.length - k) k

theorem kidsFrom_end (its : List It) (x : Int) (k : Nat) (h : its.length ≤ k) : kidsFrom its x k = [] := by
  unfold kidsFrom
  rw [Nat.sub_eq_zero_of_le h]; rfl

theorem kidsFrom_yes {its : List It} {x : Int} {k : Nat} (hk : k < its.length) (h : pOf its k = x) : kidsFrom its x k = k :: kidsFrom its x (k + 1) := by
  unfold kidsFrom
  rw [show its.length - k = (its.length - (k + 1)) + 1 by omega]
  show (if pOf its k = x then [k] else []) ++ _ = _
  rw [if_pos h]; rfl

theorem kidsFrom_no {its : List It} {x : Int} {k : Nat} (hk : k < its.length) (h : pOf its k ≠ x) : kidsFrom its x k = kidsFrom its x (k + 1) := by
  unfold kidsFrom
  rw [show its.length - k = (its.length - (k + 1)) + 1 by omega]
  show (if pOf its k = x then [k] else []) ++ _ = _
  rw [if_neg h]; rfl

theorem kidsN_mem (its : List It) (x : Int) : ∀ (n k j : Nat), j ∈ kidsN its x n k → k ≤ j ∧ j < k + n ∧ pOf its j = x
  | 0, _, _, h => by simp [kidsN] at h
  | n + 1, k, j, h => by
    rcases List.mem_append.1 h with e | e
    · split at e
      · simp at e; subst e; exact ⟨Nat.le_refl _, by omega, by assumption⟩
      · simp at e
    · obtain ⟨a, b, c⟩ := kidsN_mem its x n (k + 1) j e
      exact ⟨by omega, by omega, c⟩

theorem kidsFrom_mem {its : List It} {x : Int} {k j : Nat} (h : j ∈ kidsFrom its x k) : k ≤ j ∧ j < its.length ∧ pOf its j = x := by
  obtain ⟨a, b, c⟩ := kidsN_mem its x _ _ _ h
  exact ⟨a, by omega, c⟩

theorem kidsN_nil (its : List It) (x : Int) : ∀ (n k : Nat), (∀ j, k ≤ j → j < k + n → pOf its j ≠ x) → kidsN its x n k = []
  | 0, _, _ => rfl
  | n + 1, k, h => by
    show (if pOf its k = x then [k] else []) ++ _ = _
    rw [if_neg (h k (Nat.le_refl _) (by omega)), kidsN_nil its x n (k + 1) (fun j h1 h2 => h j (by omega) (by omega))]
    rfl

theorem kidsFrom_nil {its : List It} {x : Int} {k : Nat} (h : ∀ j, k ≤ j → j < its.length → pOf its j ≠ x) : kidsFrom its x k = [] :=
  kidsN_nil its x _ _ (fun j h1 h2 => h j h1 (by omega))

/-- No place up to k is a part of k or of a later one. -/
theorem kidsFrom_skip {its : List It} {x : Int} : ∀ (m k : Nat), k ≤ m → m ≤ its.length → (∀ j, k ≤ j → j < m → pOf its j ≠ x) → kidsFrom its x k = kidsFrom its x m
  | 0, k, h, _, _ => by
    obtain rfl : k = 0 := by omega
    rfl
  | m + 1, k, h, hm, hh => by
    by_cases e : k = m + 1
    · rw [e]
    · rw [kidsFrom_skip m k (by omega) (by omega) (fun j h1 h2 => hh j h1 (by omega)), kidsFrom_no (by omega) (hh m (by omega) (by omega))]

theorem parts_kids (its : List It) (x : Int) : ∀ (n k : Nat), k + n = its.length → partsUp its x its.length = partsUp its x k ++ (kidsN its x n k).map (fun (j : Nat) => (j : Int))
  | 0, k, h => by
    obtain rfl : k = its.length := by omega
    simp [kidsN]
  | n + 1, k, h => by
    have hk : k < its.length := by omega
    rw [parts_kids its x n (k + 1) (by omega)]
    show partsUp its x (k + 1) ++ _ = partsUp its x k ++ ((if pOf its k = x then [k] else []) ++ kidsN its x n (k + 1)).map _
    have hit := List.getElem?_eq_getElem hk
    have hp : pOf its k = its[k].p := by unfold pOf; rw [hit]
    by_cases e : its[k].p = x
    · rw [partsUp_yes hit e, if_pos (by rw [hp]; exact e)]; simp
    · rw [partsUp_no hit e, if_neg (by rw [hp]; exact e)]; simp

theorem parts_all (its : List It) (x : Int) : partsUp its x its.length = (kidsFrom its x 0).map (fun (j : Nat) => (j : Int)) := by
  have := parts_kids its x its.length 0 (by omega)
  rw [this]
  simp [partsUp, kidsFrom]

/-- An item with all in it, its head told by H. -/
def encH (H : It → Nat → List Int) (its : List It) : Nat → Nat → List Int
  | 0, _ => []
  | n + 1, i => match its[i]? with
    | none => []
    | some it => H it (it.z ++ (kidsFrom its i 0).flatMap (encH H its n)).length ++ (it.z ++ (kidsFrom its i 0).flatMap (encH H its n))

def enc (H : It → Nat → List Int) (its : List It) (i : Nat) : List Int := encH H its its.length i

theorem pOf_some {its : List It} {k : Nat} {it : It} (h : its[k]? = some it) : pOf its k = it.p := by unfold pOf; rw [h]

theorem kid_later {its : List It} (hU : UpOk its its.length) {i k j : Nat} (h : j ∈ kidsFrom its (i : Int) k) : i < j ∧ j < its.length := by
  obtain ⟨_, hl, hp⟩ := kidsFrom_mem h
  obtain ⟨it, hit⟩ : ∃ it, its[j]? = some it := ⟨_, List.getElem?_eq_getElem hl⟩
  rw [pOf_some hit] at hp
  obtain ⟨h0, h1⟩ := hU j it hl hit
  rcases Nat.eq_zero_or_pos j with e | e
  · have := h0 e; omega
  · have := h1 e; omega

theorem flatMap_eq {α β : Type} {l : List α} {f g : α → List β} (h : ∀ x ∈ l, f x = g x) : l.flatMap f = l.flatMap g := by
  induction l with
  | nil => rfl
  | cons a r ih =>
    rw [List.flatMap_cons, List.flatMap_cons, h a (by simp), ih (fun x hx => h x (by simp [hx]))]

theorem encH_fuel (H : It → Nat → List Int) {its : List It} (hU : UpOk its its.length) : ∀ (n m i : Nat), its.length ≤ i + n → its.length ≤ i + m → encH H its n i = encH H its m i
  | 0, 0, _, _, _ => rfl
  | 0, m + 1, i, h, _ => by
    have : its[i]? = none := List.getElem?_eq_none (by omega)
    unfold encH; rw [this]
  | n + 1, 0, i, _, h => by
    have : its[i]? = none := List.getElem?_eq_none (by omega)
    unfold encH; rw [this]
  | n + 1, m + 1, i, hn, hm => by
    unfold encH
    cases hit : its[i]? with
    | none => rfl
    | some it =>
      have e : (kidsFrom its i 0).flatMap (encH H its n) = (kidsFrom its i 0).flatMap (encH H its m) := flatMap_eq (fun j hj => by
        obtain ⟨h1, h2⟩ := kid_later hU hj
        exact encH_fuel H hU n m j (by omega) (by omega))
      simp only [e]

/-- All in an item. -/
def cont (H : It → Nat → List Int) (its : List It) (i : Nat) (it : It) : List Int := it.z ++ (kidsFrom its i 0).flatMap (enc H its)

theorem enc_eq (H : It → Nat → List Int) {its : List It} (hU : UpOk its its.length) {i : Nat} {it : It} (hit : its[i]? = some it) : enc H its i = H it (cont H its i it).length ++ cont H its i it := by
  have hl := (List.getElem?_eq_some_iff.1 hit).1
  obtain ⟨m, hm⟩ : ∃ m, its.length = m + 1 := ⟨its.length - 1, by omega⟩
  have e : (kidsFrom its i 0).flatMap (encH H its m) = (kidsFrom its i 0).flatMap (enc H its) := flatMap_eq (fun j hj => by
    obtain ⟨h1, h2⟩ := kid_later hU hj
    exact encH_fuel H hU m its.length j (by omega) (by omega))
  have : enc H its i = encH H its (m + 1) i := by unfold enc; rw [hm]
  rw [this]
  show (match its[i]? with | none => [] | some it => _) = _
  rw [hit]
  simp only [e]
  rfl

/-- The parts of an item from a place on. -/
def eFrom (H : It → Nat → List Int) (its : List It) (x k : Nat) : List Int := (kidsFrom its x k).flatMap (enc H its)

/-- The items from a place on, each with its head. -/
def dN (H : It → Nat → List Int) (its : List It) : Nat → Nat → List Int
  | 0, _ => []
  | n + 1, k => (match its[k]? with
    | none => []
    | some it => H it (cont H its k it).length ++ it.z) ++ dN H its n (k + 1)

def dFrom (H : It → Nat → List Int) (its : List It) (k : Nat) : List Int := dN H its (its.length - k) k

theorem dFrom_end (H : It → Nat → List Int) (its : List It) (k : Nat) (h : its.length ≤ k) : dFrom H its k = [] := by
  unfold dFrom; rw [Nat.sub_eq_zero_of_le h]; rfl

theorem dFrom_step (H : It → Nat → List Int) {its : List It} {k : Nat} {it : It} (hit : its[k]? = some it) : dFrom H its k = H it (cont H its k it).length ++ it.z ++ dFrom H its (k + 1) := by
  have hl := (List.getElem?_eq_some_iff.1 hit).1
  unfold dFrom
  rw [show its.length - k = (its.length - (k + 1)) + 1 by omega]
  show (match its[k]? with | none => [] | some it => _) ++ _ = _
  rw [hit]

theorem IsWay.suffix {its : List It} {q : Nat} : ∀ {ws : List Nat} {a : Int}, IsWay its a ws → q ∈ ws → ∃ pre post, ws = pre ++ q :: post ∧ IsWay its (q : Int) (q :: post)
  | [], _, _, h => by simp at h
  | k :: r, a, hw, h => by
    obtain ⟨rfl, it, hit, hge, hlt, hr⟩ := hw
    rcases List.mem_cons.1 h with e | e
    · subst e
      exact ⟨[], r, rfl, rfl, it, hit, hge, hlt, hr⟩
    · obtain ⟨pre, post, e1, e2⟩ := hr.suffix e
      exact ⟨k :: pre, post, by rw [e1]; rfl, e2⟩

/-- A way falls. -/
theorem IsWay.falls {its : List It} : ∀ {ws : List Nat} {a : Int}, IsWay its a ws → ∀ x ∈ ws, (x : Int) ≤ a
  | [], _, _, _, h => by simp at h
  | k :: r, a, hw, x, h => by
    obtain ⟨rfl, it, hit, hge, hlt, hr⟩ := hw
    rcases List.mem_cons.1 h with e | e
    · omega
    · have := hr.falls x e; omega

theorem IsWay.apart {its : List It} : ∀ {pre : List Nat} {q : Nat} {post : List Nat} {a : Int}, IsWay its a (pre ++ q :: post) → (∀ x ∈ pre, q < x) ∧ ∀ x ∈ post, x < q
  | [], q, post, a, hw => by
    obtain ⟨rfl, it, hit, hge, hlt, hr⟩ := hw
    exact ⟨fun x h => by simp at h, fun x h => by have := hr.falls x h; omega⟩
  | k :: pre, q, post, a, hw => by
    obtain ⟨rfl, it, hit, hge, hlt, hr⟩ := hw
    obtain ⟨h1, h2⟩ := IsWay.apart hr
    refine ⟨fun x h => ?_, h2⟩
    rcases List.mem_cons.1 h with e | e
    · have := hr.falls q (by simp); omega
    · exact h1 x e

theorem IsWay.unique {its : List It} {a : Int} : ∀ {xs ys : List Nat}, IsWay its a xs → IsWay its a ys → xs = ys := by
  intro xs ys h1 h2
  have ha := h1.ge
  have e1 := h1.fuel (n := (a + 1).toNat) (by omega)
  have e2 := h2.fuel (n := (a + 1).toNat) (by omega)
  rw [← e1, ← e2]

/-- Items in order: each one's parent is on the way up from the one ahead. -/
def LineOk (its : List It) : Prop := ∀ (k : Nat) (it : It), 0 < k → its[k]? = some it → it.p.toNat ∈ upL its ((k : Int) - 1)

theorem way_at {its : List It} (hU : UpOk its its.length) {k : Nat} (hk : k < its.length) : IsWay its (k : Int) (upL its (k : Int)) := by
  obtain ⟨xs, hx⟩ := hU.way (Nat.le_refl _) k hk
  rw [hx.up (by omega)]; exact hx

/-- On ways from later places nothing ahead of k is met but what the way from k's parent has. -/
theorem way_later {its : List It} (hU : UpOk its its.length) (hL : LineOk its) {k q : Nat} {post : List Nat} {it : It} (hit : its[k]? = some it) (hq : it.p = (q : Int)) (hw : IsWay its (q : Int) (q :: post)) :
    ∀ (n : Nat), k + n < its.length → ∀ x ∈ upL its ((k + n : Nat) : Int), x < k → x ∈ q :: post
  | 0, hn, x, hx, hxk => by
    have h1 := way_at hU (k := k) (by omega)
    have h2 : IsWay its (k : Int) (k :: q :: post) := by
      have hkl := (List.getElem?_eq_some_iff.1 hit).1
      obtain ⟨u0, u1⟩ := hU k it hkl hit
      have : it.p < k := by rcases Nat.eq_zero_or_pos k with e | e; have := u0 e; omega; exact (u1 e).2
      exact ⟨rfl, it, hit, by omega, this, by rw [hq]; exact hw⟩
    rw [show ((k + 0 : Nat) : Int) = (k : Int) by simp, h1.unique h2] at hx
    rcases List.mem_cons.1 hx with e | e
    · omega
    · exact e
  | n + 1, hn, x, hx, hxk => by
    have ih := way_later hU hL hit hq hw n (by omega)
    obtain ⟨jt, hjt⟩ : ∃ jt, its[k + (n + 1)]? = some jt := ⟨_, List.getElem?_eq_getElem hn⟩
    have hline := hL (k + (n + 1)) jt (by omega) hjt
    have e1 : ((k + (n + 1) : Nat) : Int) - 1 = ((k + n : Nat) : Int) := by omega
    rw [e1] at hline
    obtain ⟨pre, post', es, hs⟩ := (way_at hU (k := k + n) (by omega)).suffix hline
    obtain ⟨u0, u1⟩ := hU _ jt hn hjt
    have hjp := u1 (by omega)
    have hw2 : IsWay its ((k + (n + 1) : Nat) : Int) ((k + (n + 1)) :: jt.p.toNat :: post') := ⟨rfl, jt, hjt, by omega, hjp.2, by
      rw [show ((jt.p.toNat : Nat) : Int) = jt.p by omega] at hs; exact hs⟩
    rw [(way_at hU hn).unique hw2] at hx
    rcases List.mem_cons.1 hx with e | e
    · omega
    · exact ih x (by rw [es]; exact List.mem_append.2 (.inr e)) hxk

set_option maxHeartbeats 400000 in
/-- The items from a place on are the parts, from it on, of all on the way up from the place ahead. -/
theorem suffix_eq (H : It → Nat → List Int) {its : List It} (hU : UpOk its its.length) (hL : LineOk its) : ∀ (n k : Nat), k + n = its.length → 0 < k → dFrom H its k = (upL its ((k : Int) - 1)).flatMap (fun x => eFrom H its x k)
  | 0, k, h, h0 => by
    rw [dFrom_end H its k (by omega)]
    symm
    rw [List.flatMap_eq_nil_iff]
    intro x _
    unfold eFrom
    rw [kidsFrom_end its _ k (by omega)]; rfl
  | n + 1, k, h, h0 => by
    have hk : k < its.length := by omega
    have ih := suffix_eq H hU hL n (k + 1) (by omega) (by omega)
    obtain ⟨it, hit⟩ : ∃ it, its[k]? = some it := ⟨_, List.getElem?_eq_getElem hk⟩
    obtain ⟨_, u1⟩ := hU k it hk hit
    obtain ⟨p0, p1⟩ := u1 h0
    obtain ⟨q, hq⟩ : ∃ q : Nat, it.p = (q : Int) := ⟨it.p.toNat, by omega⟩
    have hqk : q < k := by omega
    have hline := hL k it h0 hit
    rw [hq, Int.toNat_natCast] at hline
    have hwk : IsWay its ((k : Int) - 1) (upL its ((k : Int) - 1)) := by
      have := way_at hU (k := k - 1) (by omega)
      rwa [show ((k - 1 : Nat) : Int) = (k : Int) - 1 by omega] at this
    obtain ⟨pre, post, es, hs⟩ := hwk.suffix hline
    have hap : (∀ x ∈ pre, q < x) ∧ ∀ x ∈ post, x < q := IsWay.apart (by rw [← es]; exact hwk)
    have hw2 : IsWay its (k : Int) (k :: q :: post) := ⟨rfl, it, hit, by omega, p1, by rw [hq]; exact hs⟩
    have hpk : pOf its k = (q : Int) := by rw [pOf_some hit, hq]
    have e1 : upL its (((k + 1 : Nat) : Int) - 1) = k :: q :: post := by
      rw [show ((k + 1 : Nat) : Int) - 1 = (k : Int) by omega]
      exact (way_at hU hk).unique hw2
    rw [e1] at ih
    have hpre : ∀ x ∈ pre, eFrom H its x k = [] := by
      intro x hx
      unfold eFrom
      rw [kidsFrom_nil (fun j hj1 hj2 hp => ?_)]; rfl
      have hxq := hap.1 x hx
      have hxk : x < k := by have := hwk.falls x (by rw [es]; exact List.mem_append.2 (.inl hx)); omega
      by_cases e : j = k
      · subst e; rw [hpk] at hp; omega
      · obtain ⟨jt, hjt⟩ : ∃ jt, its[j]? = some jt := ⟨_, List.getElem?_eq_getElem hj2⟩
        have hjl := hL j jt (by omega) hjt
        rw [pOf_some hjt] at hp
        rw [hp, Int.toNat_natCast, show (j : Int) - 1 = ((k + (j - 1 - k) : Nat) : Int) by omega] at hjl
        have hm := way_later hU hL hit hq hs (j - 1 - k) (by omega) x hjl hxk
        rcases List.mem_cons.1 hm with e' | e'
        · omega
        · have := hap.2 x e'; omega
    have hpost : post.flatMap (fun x => eFrom H its x k) = post.flatMap (fun x => eFrom H its x (k + 1)) := flatMap_eq (fun x hx => by
      have := hap.2 x hx
      unfold eFrom
      rw [kidsFrom_no hk (by rw [hpk]; omega)])
    have hqe : eFrom H its q k = enc H its k ++ eFrom H its q (k + 1) := by
      unfold eFrom
      rw [kidsFrom_yes hk hpk, List.flatMap_cons]
    have hke : cont H its k it = it.z ++ eFrom H its k (k + 1) := by
      unfold cont eFrom
      rw [kidsFrom_skip (k + 1) 0 (by omega) (by omega) (fun j _ hj hp => ?_)]
      obtain ⟨jt, hjt⟩ : ∃ jt, its[j]? = some jt := ⟨_, List.getElem?_eq_getElem (by omega)⟩
      rw [pOf_some hjt] at hp
      obtain ⟨v0, v1⟩ := hU j jt (by omega) hjt
      rcases Nat.eq_zero_or_pos j with e | e
      · have := v0 e; omega
      · have := v1 e; omega
    rw [dFrom_step H hit, ih, es]
    simp only [List.flatMap_append, List.flatMap_cons]
    rw [List.flatMap_eq_nil_iff.2 hpre, hpost, hqe, enc_eq H hU hit, hke]
    simp [List.append_assoc]

theorem cont_eq (H : It → Nat → List Int) {its : List It} (hU : UpOk its its.length) {k : Nat} {it : It} (hit : its[k]? = some it) : cont H its k it = it.z ++ eFrom H its k (k + 1) := by
  have hk := (List.getElem?_eq_some_iff.1 hit).1
  unfold cont eFrom
  rw [kidsFrom_skip (k + 1) 0 (by omega) (by omega) (fun j _ hj hp => ?_)]
  obtain ⟨jt, hjt⟩ : ∃ jt, its[j]? = some jt := ⟨_, List.getElem?_eq_getElem (by omega)⟩
  rw [pOf_some hjt] at hp
  obtain ⟨v0, v1⟩ := hU j jt (by omega) hjt
  rcases Nat.eq_zero_or_pos j with e | e
  · have := v0 e; omega
  · have := v1 e; omega

/-- All items in order are the first one with all in it. -/
theorem all_eq (H : It → Nat → List Int) {its : List It} (hU : UpOk its its.length) (hL : LineOk its) (h0 : 0 < its.length) : dFrom H its 0 = enc H its 0 := by
  obtain ⟨it, hit⟩ : ∃ it, its[0]? = some it := ⟨_, List.getElem?_eq_getElem h0⟩
  obtain ⟨u0, _⟩ := hU 0 it h0 hit
  have hw : IsWay its ((0 : Nat) : Int) [0] := ⟨rfl, it, hit, by have := u0 rfl; omega, by have := u0 rfl; omega, u0 rfl⟩
  have e1 : upL its (((1 : Nat) : Int) - 1) = [0] := (way_at hU h0).unique hw
  have hs := suffix_eq H hU hL (its.length - 1) 1 (by omega) (by omega)
  rw [e1] at hs
  rw [dFrom_step H hit, enc_eq H hU hit, cont_eq H hU hit, hs]
  simp [List.append_assoc]

end Go.Proofs.YtfhhnnlafdgloaaGreat

/- What is proved here: plain facts on items without a fault that are written as bytes: the program's heads and the model's give the same bytes, or both give more than 1200; no program is named. -/
namespace Go.Proofs.YtfhhnnlafdgloaaGreat
open Go.RowKit
set_option linter.unusedVariables false
set_option maxRecDepth 100000

theorem fltFrom_zero (its : List It) : ∀ (r : List It) (k : Nat), fltFrom its k r = 0 → ∀ i it, r[i]? = some it → fltAt its (k + i) it = 0
  | [], _, _, i, it, h => by simp at h
  | a :: r, k, hz, i, it, h => by
    unfold fltFrom at hz
    split at hz
    · cases i with
      | zero => simp at h; subst h; assumption
      | succ i =>
        have := fltFrom_zero its r (k + 1) hz i it (by simpa using h)
        rwa [show k + 1 + i = k + (i + 1) by omega] at this
    · exact absurd hz (by assumption)

/-- Items without a fault. -/
structure NoFault (its : List It) : Prop where
  some : 0 < its.length
  few : its.length ≤ 200
  up : UpOk its its.length
  line : LineOk its
  small : ∀ it ∈ its, it.z.length ≤ 300
  empty : ∀ it ∈ its, it.l = true → it.z = []
  leaf : ∀ (k : Nat) (it : It), its[k]? = Option.some it → it.l = false → ∀ m, kidsFrom its (k : Int) m = []

theorem noFault_of {its : List It} (h : itemsFlt its = 0) : NoFault its := by
  unfold itemsFlt at h
  split at h
  · omega
  · rename_i hlen
    have all : ∀ (i : Nat) (it : It), its[i]? = some it → fltAt its i it = 0 := fun i it hi => by
      have := fltFrom_zero its its 0 h i it hi
      rwa [Nat.zero_add] at this
    have hU : UpOk its its.length := fun j it _ hit => fltAt_up (all j it hit)
    have each : ∀ (k : Nat) (it : It), its[k]? = some it → (it.l = true → it.z = []) ∧ it.z.length ≤ 300 ∧ (0 < k → lAt its it.p.toNat = true ∧ it.p.toNat ∈ upL its ((k : Int) - 1)) := by
      intro k it hit
      have hz := all k it hit
      unfold fltAt at hz
      split at hz
      · omega
      · rename_i n1
        split at hz
        · omega
        · rename_i n2
          refine ⟨fun hl => ?_, by omega, fun hk => ?_⟩
          · have : ¬ 0 < it.z.length := fun hh => n1 ⟨hl, hh⟩
            exact List.length_eq_zero_iff.1 (by omega)
          · rw [if_neg (by omega)] at hz
            split at hz
            · omega
            · split at hz
              · assumption
              · omega
    refine ⟨by omega, by omega, hU, fun k it hk hit => ((each k it hit).2.2 hk).2, fun it hi => ?_, fun it hi => ?_, fun k it hit hl m => ?_⟩
    · obtain ⟨k, hk⟩ := List.getElem?_of_mem hi
      exact (each k it hk).2.1
    · obtain ⟨k, hk⟩ := List.getElem?_of_mem hi
      exact (each k it hk).1
    · apply kidsFrom_nil
      intro j _ hj hp
      obtain ⟨jt, hjt⟩ : ∃ jt, its[j]? = some jt := ⟨_, List.getElem?_eq_getElem hj⟩
      rw [pOf_some hjt] at hp
      obtain ⟨u0, u1⟩ := hU j jt hj hjt
      have hj0 : 0 < j := by rcases Nat.eq_zero_or_pos j with e | e; have := u0 e; omega; exact e
      have := ((each j jt hjt).2.2 hj0).1
      rw [hp, Int.toNat_natCast] at this
      unfold lAt at this
      rw [hit] at this
      simp only at this
      rw [hl] at this
      cases this

theorem le_flatMap {α : Type} {l : List α} {f : α → List Int} {x : α} (h : x ∈ l) : (f x).length ≤ (l.flatMap f).length := by
  induction l with
  | nil => simp at h
  | cons a r ih =>
    rw [List.flatMap_cons, List.length_append]
    rcases List.mem_cons.1 h with e | e
    · subst e; omega
    · have := ih e; omega

theorem enc_ge_cont (H : It → Nat → List Int) {its : List It} (hU : UpOk its its.length) {i : Nat} {it : It} (hit : its[i]? = some it) : (cont H its i it).length ≤ (enc H its i).length := by
  rw [enc_eq H hU hit, List.length_append]; omega

theorem kid_le (H : It → Nat → List Int) {its : List It} {i j : Nat} {it : It} (h : j ∈ kidsFrom its (i : Int) 0) : (enc H its j).length ≤ (cont H its i it).length := by
  unfold cont
  rw [List.length_append]
  have := le_flatMap (f := enc H its) h
  omega

theorem enc_same {its : List It} (hU : UpOk its its.length) : ∀ (n i : Nat) (it : It), its.length ≤ i + n → its[i]? = some it → (cont hdS its i it).length ≤ 1200 → enc hdI its i = enc hdS its i ∧ cont hdI its i it = cont hdS its i it
  | 0, i, it, hn, hit, _ => by have := (List.getElem?_eq_some_iff.1 hit).1; omega
  | n + 1, i, it, hn, hit, hc => by
    have e : (kidsFrom its i 0).flatMap (enc hdI its) = (kidsFrom its i 0).flatMap (enc hdS its) := flatMap_eq (fun j hj => by
      obtain ⟨h1, h2⟩ := kid_later hU hj
      obtain ⟨jt, hjt⟩ : ∃ jt, its[j]? = some jt := ⟨_, List.getElem?_eq_getElem h2⟩
      have hl := kid_le hdS (it := it) hj
      have hg := enc_ge_cont hdS hU hjt
      exact (enc_same hU n j jt (by omega) hjt (by omega)).1)
    have ec : cont hdI its i it = cont hdS its i it := by unfold cont; rw [e]
    exact ⟨by rw [enc_eq hdI hU hit, enc_eq hdS hU hit, ec, hd_same it _ hc], ec⟩

theorem enc_great {its : List It} (hU : UpOk its its.length) : ∀ (n i : Nat) (it : It), its.length ≤ i + n → its[i]? = some it → 1200 < (cont hdS its i it).length → 1200 < (enc hdI its i).length
  | 0, i, it, hn, hit, _ => by have := (List.getElem?_eq_some_iff.1 hit).1; omega
  | n + 1, i, it, hn, hit, hc => by
    by_cases hall : ∀ j ∈ kidsFrom its (i : Int) 0, ∀ jt, its[j]? = some jt → (cont hdS its j jt).length ≤ 1200
    · have e : (kidsFrom its i 0).flatMap (enc hdI its) = (kidsFrom its i 0).flatMap (enc hdS its) := flatMap_eq (fun j hj => by
        obtain ⟨h1, h2⟩ := kid_later hU hj
        obtain ⟨jt, hjt⟩ : ∃ jt, its[j]? = some jt := ⟨_, List.getElem?_eq_getElem h2⟩
        exact (enc_same hU its.length j jt (by omega) hjt (hall j hj jt hjt)).1)
      have ec : cont hdI its i it = cont hdS its i it := by unfold cont; rw [e]
      have := enc_ge_cont hdI hU hit
      rw [ec] at this
      omega
    · have : ∃ j, j ∈ kidsFrom its (i : Int) 0 ∧ ∃ jt, its[j]? = some jt ∧ 1200 < (cont hdS its j jt).length := by
        refine Classical.byContradiction fun hno => hall fun j hj jt hjt => ?_
        refine Nat.le_of_not_lt fun hlt => hno ⟨j, hj, jt, hjt, hlt⟩
      obtain ⟨j, hj, jt, hjt, hlt⟩ := this
      have h1 := (kid_later hU hj).1
      have h2 := enc_great hU n j jt (by omega) hjt hlt
      have h3 := kid_le hdI (it := it) hj
      have h4 := enc_ge_cont hdI hU hit
      omega

theorem dN_le (H : It → Nat → List Int) (hH : ∀ it n, (H it n).length ≤ 8) {its : List It} (hs : ∀ it ∈ its, it.z.length ≤ 300) : ∀ n k, (dN H its n k).length ≤ 308 * n
  | 0, _ => by simp [dN]
  | n + 1, k => by
    unfold dN
    rw [List.length_append]
    have ih := dN_le H hH hs n (k + 1)
    cases hit : its[k]? with
    | none => simp; omega
    | some it =>
      simp only [List.length_append]
      have h1 := hH it (cont H its k it).length
      have h2 := hs it (List.mem_of_getElem? hit)
      omega

theorem kids_later_le (H : It → Nat → List Int) {its : List It} (x : Nat) : ∀ (m k : Nat), k ≤ m → m ≤ its.length → (eFrom H its x m).length ≤ (eFrom H its x k).length
  | 0, k, h, _ => by
    obtain rfl : k = 0 := by omega
    exact Nat.le_refl _
  | m + 1, k, h, hm => by
    by_cases e : k = m + 1
    · subst e; exact Nat.le_refl _
    · refine Nat.le_trans ?_ (kids_later_le H x m k (by omega) (by omega))
      unfold eFrom
      by_cases hp : pOf its m = (x : Int)
      · rw [kidsFrom_yes (by omega) hp, List.flatMap_cons, List.length_append]; omega
      · rw [kidsFrom_no (by omega) hp]; exact Nat.le_refl _

theorem eFrom_le (H : It → Nat → List Int) (hH : ∀ it n, (H it n).length ≤ 8) {its : List It} (N : NoFault its) (i k : Nat) (hi : i < its.length) (hk : i < k) (hkl : k ≤ its.length) : (eFrom H its i k).length ≤ 61600 := by
  have h1 := kids_later_le H (its := its) i k (i + 1) (by omega) hkl
  have h2 := suffix_eq H N.up N.line (its.length - (i + 1)) (i + 1) (by omega) (by omega)
  have hm : i ∈ upL its (((i + 1 : Nat) : Int) - 1) := by
    rw [show ((i + 1 : Nat) : Int) - 1 = (i : Int) by omega]
    have hw := way_at N.up hi
    generalize upL its (i : Int) = ws at hw
    cases ws with
    | nil => have : (i : Int) = -1 := hw; omega
    | cons a r => obtain ⟨e, _⟩ := hw; simp; omega
  have h3 := le_flatMap (f := fun x => eFrom H its x (i + 1)) hm
  rw [← h2] at h3
  have h4 := dN_le H hH N.small (its.length - (i + 1)) (i + 1)
  have h5 := N.few
  have : (dFrom H its (i + 1)).length ≤ 308 * (its.length - (i + 1)) := h4
  omega

theorem cont_le (H : It → Nat → List Int) (hH : ∀ it n, (H it n).length ≤ 8) {its : List It} (N : NoFault its) {i : Nat} {it : It} (hit : its[i]? = some it) : (cont H its i it).length ≤ 61900 := by
  have hl := (List.getElem?_eq_some_iff.1 hit).1
  rw [cont_eq H N.up hit, List.length_append]
  have := eFrom_le H hH N i (i + 1) hl (by omega) (by omega)
  have := N.small it (List.mem_of_getElem? hit)
  omega

theorem enc_le (H : It → Nat → List Int) (hH : ∀ it n, (H it n).length ≤ 8) {its : List It} (N : NoFault its) {i : Nat} {it : It} (hit : its[i]? = some it) : (enc H its i).length ≤ 61908 := by
  rw [enc_eq H N.up hit, List.length_append]
  have := cont_le H hH N hit
  have := hH it (cont H its i it).length
  omega

/-- What EncodeItems answers: its code and its bytes. -/
def enCode (its : List It) : Int := if itemsFlt its = 0 then (if 1200 < (enc hdS its 0).length then 2 else 0) else itemsFlt its
def enBytes (its : List It) : List Int := if itemsFlt its = 0 ∧ (enc hdS its 0).length ≤ 1200 then enc hdS its 0 else []

/-- The program's bytes: the same, or both too many. -/
theorem enc_tie {its : List It} (N : NoFault its) : (1200 < (enc hdS its 0).length → 1200 < (dFrom hdI its 0).length) ∧ ((enc hdS its 0).length ≤ 1200 → dFrom hdI its 0 = enc hdS its 0) := by
  have h0 := N.some
  obtain ⟨it, hit⟩ : ∃ it, its[0]? = some it := ⟨_, List.getElem?_eq_getElem h0⟩
  rw [all_eq hdI N.up N.line h0]
  by_cases hc : (cont hdS its 0 it).length ≤ 1200
  · have := (enc_same N.up its.length 0 it (by omega) hit hc).1
    rw [this]
    exact ⟨fun h => h, fun _ => rfl⟩
  · have h1 := enc_great N.up its.length 0 it (by omega) hit (by omega)
    have h2 := enc_ge_cont hdS N.up hit
    exact ⟨fun _ => h1, fun h => by omega⟩

theorem hdS_range (it : It) (n : Nat) (h : n < 16777216) : ∀ x ∈ hdS it n, 0 ≤ x ∧ x ≤ 255 := by
  unfold hdS; split
  · intro x hx; simp at hx
  · exact headL_range _ _ (by omega) (by omega)

theorem enc_range {its : List It} (N : NoFault its) (hz : ∀ it ∈ its, ∀ x ∈ it.z, 0 ≤ x ∧ x ≤ 255) : ∀ (n i : Nat), its.length ≤ i + n → ∀ x ∈ enc hdS its i, 0 ≤ x ∧ x ≤ 255
  | n, i, hn, x, hx => by
    cases hit : its[i]? with
    | none =>
      unfold enc at hx
      have hl : its.length ≤ i := List.getElem?_eq_none_iff.1 hit
      rw [encH_fuel hdS N.up its.length 0 i (by omega) (by omega)] at hx
      simp [encH] at hx
    | some it =>
      have hl := (List.getElem?_eq_some_iff.1 hit).1
      rw [enc_eq hdS N.up hit] at hx
      rcases List.mem_append.1 hx with e | e
      · exact hdS_range it _ (by have := cont_le hdS hdS_length N hit; omega) x e
      · unfold cont at e
        rcases List.mem_append.1 e with e' | e'
        · exact hz it (List.mem_of_getElem? hit) x e'
        · obtain ⟨j, hj, hxj⟩ := List.mem_flatMap.1 e'
          have h1 := kid_later N.up hj
          cases n with
          | zero => omega
          | succ n => exact enc_range N hz n j (by omega) x hxj

theorem enBytes_range (its : List It) (hz : ∀ it ∈ its, ∀ x ∈ it.z, 0 ≤ x ∧ x ≤ 255) : ∀ x ∈ enBytes its, 0 ≤ x ∧ x ≤ 255 := by
  unfold enBytes
  split
  · exact enc_range (noFault_of (by omega)) hz its.length 0 (by omega)
  · intro x hx; simp at hx

theorem enBytes_length (its : List It) : (enBytes its).length ≤ 1200 := by
  unfold enBytes
  split
  · omega
  · simp

end Go.Proofs.YtfhhnnlafdgloaaGreat

/- What is proved here: what the model's l3Piece and l3Wrap answer: bytes as an item, and what is in a list as an item, in new memory. -/
namespace Go.Proofs.YtfhhnnlafdgloaaGreat
open Go.RowKit
set_option linter.unusedVariables false
set_option maxRecDepth 100000

/-- The head of bytes. -/
def pieceHd (z : List Int) : List Int := if z.length = 1 ∧ z.getD 0 0 < 128 then [] else headL false z.length

end Go.Proofs.YtfhhnnlafdgloaaGreat

/- What is proved here: what the model's l5List answers: slices of bytes as a list. -/
namespace Go.Proofs.YtfhhnnlafdgloaaGreat
open Go.RowKit
set_option linter.unusedVariables false
set_option maxRecDepth 100000

theorem headL_rng (l : Bool) (n : Nat) (h : n ≤ 1048576) : ∀ x ∈ headL l n, 0 ≤ x ∧ x ≤ 255 := headL_range l n (by omega) (by omega)

theorem pcL_range (z : List Int) (hl : z.length ≤ 1048576) (h : ∀ x ∈ z, 0 ≤ x ∧ x ≤ 255) : ∀ x ∈ pcL z, 0 ≤ x ∧ x ≤ 255 := by
  intro x hx
  unfold pcL at hx
  rcases List.mem_append.1 hx with e | e
  · unfold pcHd at e
    split at e
    · simp at e
    · exact headL_rng false _ hl x e
  · exact h x e

theorem wrapL_range (z : List Int) (hl : z.length ≤ 1048576) (h : ∀ x ∈ z, 0 ≤ x ∧ x ≤ 255) : ∀ x ∈ wrapL z, 0 ≤ x ∧ x ≤ 255 := by
  intro x hx
  unfold wrapL at hx
  rcases List.mem_append.1 hx with e | e
  · exact headL_rng true _ hl x e
  · exact h x e

theorem pcsL_range (zss : List (List Int)) (hl : ∀ z ∈ zss, z.length ≤ 8) (h : ∀ z ∈ zss, ∀ x ∈ z, 0 ≤ x ∧ x ≤ 255) : ∀ x ∈ pcsL zss, 0 ≤ x ∧ x ≤ 255 := by
  intro x hx
  obtain ⟨z, hz, hxz⟩ := List.mem_flatMap.1 hx
  exact pcL_range z (by have := hl z hz; omega) (h z hz) x hxz

theorem flat_snoc (zss : List (List Int)) (k : Nat) (z : List Int) (h : zss[k]? = some z) : pcsL (zss.take (k + 1)) = pcsL (zss.take k) ++ pcL z := by
  obtain ⟨hk, e⟩ := List.getElem?_eq_some_iff.1 h
  unfold pcsL
  rw [List.take_succ_eq_append_getElem hk, List.flatMap_append, e]
  simp

theorem pcsL_take (zss : List (List Int)) (k : Nat) (h : ∀ z ∈ zss, z.length ≤ 8) (hl : zss.length ≤ 7) : (pcsL (zss.take k)).length ≤ 112 := by
  have := pcsL_length (zss.take k) (fun z hz => h z (List.mem_of_mem_take hz))
  have h2 : (zss.take k).length ≤ zss.length := by simp; omega
  omega

end Go.Proofs.YtfhhnnlafdgloaaGreat

/- What is proved here: what bytes.Clone, slices.Grow and slices.Concat answer at bytes: the same bytes in new memory, room, and all bytes one behind the other. -/
namespace Go.Proofs.YtfhhnnlafdgloaaGreat
open Go.RowKit
set_option linter.unusedVariables false
set_option maxRecDepth 100000

end Go.Proofs.YtfhhnnlafdgloaaGreat

/- What is proved here: what the program's copyRecents answers: the same recents in memory of their own. -/
namespace Go.Proofs.YtfhhnnlafdgloaaGreat
open Go.RowKit
set_option linter.unusedVariables false
set_option linter.unusedSimpArgs false
set_option maxRecDepth 100000

/-- The things of a row of a kind. -/
theorem RowOk.elems {α β : Type} (e0 : β) {K : Kd α β} {w : World} {s : Sl} {xs : List α} (h : RowOk K w s xs) :
    ∃ es : List β, es.length = xs.length ∧ (∀ b off, s.a = some ⟨b, off, none⟩ → ∀ j u, (flatV K es xs)[j]? = some u → w.cell? ⟨b, off + j, none⟩ = some u) ∧ ∀ (i : Nat) (e : β) (x : α), es[i]? = some e → xs[i]? = some x → K.Ok w e x := by
  have key : ∀ i : Nat, ∃ e : β, ∀ x, xs[i]? = some x → (∀ b off, s.a = some ⟨b, off, none⟩ → ∀ j v, (K.vals e x)[j]? = some v → w.cell? ⟨b, off + i * K.m + j, none⟩ = some v) ∧ K.Ok w e x := fun i => by
    cases hz : xs[i]? with
    | none => exact ⟨e0, fun z hz' => by cases hz'⟩
    | some x =>
      have hi := (List.getElem?_eq_some_iff.1 hz).1
      obtain ⟨b, off, ha, _, k⟩ := h.pos (by rw [h.len]; omega)
      obtain ⟨e, q, ho⟩ := k i x hz
      refine ⟨e, fun x' hx' => ?_⟩
      obtain rfl := Option.some.inj hx'
      refine ⟨fun b' off' ha' => ?_, ho⟩
      rw [ha] at ha'
      simp only [Option.some.injEq, Addr.mk.injEq, and_true] at ha'
      obtain ⟨rfl, rfl⟩ := ha'
      exact q
  obtain ⟨f, hf⟩ := Classical.axiomOfChoice key
  have hes : ∀ i, i < xs.length → ((List.range xs.length).map f)[i]? = some (f i) := fun i hi => by rw [List.getElem?_map, List.getElem?_range hi]; rfl
  refine ⟨(List.range xs.length).map f, by simp, fun b off ha j u hu => ?_, fun i e x he hx => ?_⟩
  · -- by blocks of K.m
    have gen : ∀ (n : Nat), n ≤ xs.length → ∀ j u, (flatV K (((List.range xs.length).map f).drop n) (xs.drop n))[j]? = some u → w.cell? ⟨b, off + n * K.m + j, none⟩ = some u := by
      intro n
      induction hn : xs.length - n generalizing n with
      | zero =>
        intro hl j u hu
        rw [List.drop_eq_nil_of_le (by omega : xs.length ≤ n)] at hu
        cases ((List.range xs.length).map f).drop n <;> simp [flatV] at hu
      | succ m ih =>
        intro hl j u hu
        have hlt : n < xs.length := by omega
        rw [List.drop_eq_getElem_cons hlt, List.drop_eq_getElem_cons (by simpa using hlt : n < ((List.range xs.length).map f).length)] at hu
        have e1 : ((List.range xs.length).map f)[n]'(by simpa using hlt) = f n := by simp
        rw [e1] at hu
        change (K.vals (f n) xs[n] ++ flatV K _ _)[j]? = some u at hu
        by_cases hj : j < K.m
        · rw [List.getElem?_append_left (by rw [K.len]; exact hj)] at hu
          exact (hf n _ (List.getElem?_eq_getElem hlt)).1 b off ha j u hu
        · rw [List.getElem?_append_right (by rw [K.len]; omega), K.len] at hu
          have := ih (n + 1) (by omega) (by omega) (j - K.m) u hu
          rw [show off + (n + 1) * K.m + (j - K.m) = off + n * K.m + j by rw [Nat.succ_mul]; omega] at this
          exact this
    have := gen 0 (Nat.zero_le _) j u (by simpa using hu)
    simpa using this
  · have hi := (List.getElem?_eq_some_iff.1 hx).1
    rw [hes i hi] at he
    obtain rfl := Option.some.inj he
    exact (hf i x hx).2

theorem flatV_len {α β : Type} (K : Kd α β) : ∀ (es : List β) (xs : List α), es.length = xs.length → (flatV K es xs).length = xs.length * K.m
  | [], [], _ => by simp [flatV]
  | e :: es, x :: xs, h => by
    show (K.vals e x ++ flatV K es xs).length = _
    rw [List.length_append, K.len, flatV_len K es xs (by simpa using h), List.length_cons, Nat.succ_mul]
    omega
  | [], _ :: _, h => by simp at h
  | _ :: _, [], h => by simp at h

theorem rc_cells {es : List RcS} {rs : List Rc} : ∀ u ∈ flatV rcK es rs, u.oneCell' = true := by
  induction es generalizing rs with
  | nil => intro u hu; simp [flatV] at hu
  | cons e es ih =>
    cases rs with
    | nil => intro u hu; simp [flatV] at hu
    | cons r rs =>
      intro u hu
      have hu' : u ∈ rcK.vals e r ++ flatV rcK es rs := hu
      rcases List.mem_append.1 hu' with h | h
      · have hh : u = .int .i64 r.1 ∨ u = .slice e.2.a e.2.n e.2.c := by simpa [rcK, pairK, intK, bytesK] using h
        rcases hh with rfl | rfl <;> rfl
      · exact ih u h

set_option maxHeartbeats 2000000 in
theorem cloneRc_any (s : Sl) (rs : List Rc) (w : World) (h : RowOk rcK w s rs) (hl : s.n ≤ 1048576) :
    Calls Tryz.prog 85 #[.slice s.a s.n s.c] w fun e w' => ∃ (a' : Option Addr) (c' : Nat) (es : List RcS), e = .returned (.slice a' s.n c') ∧ es.length = rs.length ∧
      w'.ownsRow w.heap.size 89 2 (.slice a' s.n c') s.n (flatV rcK es rs) ∧ (∀ (i : Nat) (e : RcS) (x : Rc), es[i]? = some e → rs[i]? = some x → rcK.Ok w e x) ∧ Below w.heap.size w w' := by
  obtain ⟨i0, hi, hz0, hz1, hz2⟩ := info_parts infoRc
  have qT : ∀ (w : World) (a : Option Addr) (n c n' c' : Nat), (binOp .eql 29 (.slice a n c) (.slice none n' c')).run Tryz.prog w = .ok (.bool a.isNone) w := fun w a n c n' c' => Lib.run_eql_slice_nil w _ _ a n c n' c' Tryz.underlying29
  obtain ⟨es, s1, s2, s3⟩ := h.elems (e0 := ((), ⟨none, 0, 0⟩))
  have hlen := h.len
  obtain ⟨a, len, cap⟩ := s
  simp only at hlen hl s2 ⊢
  cases a with
  | none =>
    have h0 : len = 0 := by have := h.room; have := h.nil rfl; simp only at *; omega
    subst h0
    obtain rfl : rs = [] := List.length_eq_zero_iff.1 hlen.symm
    clear h s2 s3 s1 hl hlen es
    go_enter Tryz.func85, Tryz.ntmps85
    go_wp2_with fail
    go_ret
    exact ⟨none, 0, [], rfl, rfl, World.ownsRow_nil _ _ _ _, fun i e z he => by simp at he, Below.refl _ _⟩
  | some x =>
    have hown0 : (w.alloc (.cells #[] 89)).ownsRow w.heap.size 89 2 (.slice (some ⟨w.heap.size, 0, none⟩) 0 0) 0 [] := World.ownsRow_lit w #[] 0 (Nat.le_refl _) (by unfold maxLen; omega) rfl
    have hb := below_alloc w (.cells #[] 89)
    have hfl := flatV_len rcK es rs s1
    have s2' : ∀ j u, (flatV rcK es rs)[j]? = some u → (w.alloc (.cells #[] 89)).cell? (x.add j) = some u := fun j u hu => by
      have hj := (List.getElem?_eq_some_iff.1 hu).1
      rw [hfl] at hj
      have hp : 0 < len := by
        rcases Nat.eq_zero_or_pos len with h0 | hp
        · rw [← hlen, h0] at hj
          simp at hj
        · exact hp
      obtain ⟨b, off, e, _⟩ := h.pos hp
      have e' : x = ⟨b, off, none⟩ := Option.some.inj e
      subst e'
      have hc := s2 b off rfl j u hu
      rw [add_none]
      exact (hb.cell (lt_of_cell hc)).trans hc
    have HS2 := hide s2'
    have HS3 := hide s3
    have HB := hide hb
    have HFL := hide hfl
    have HLN := hide hlen
    clear h s2 s2' s3 hb hfl hlen
    go_enter Tryz.func85, Tryz.ntmps85
    go_wp2_with (at_builtin; refine wpList_append_own _ rfl _ _ 29 rfl w.heap.size 89 i0 (.agg #[.int .i64 0, .slice none 0 0]) 2 32 Tryz.underlying29 hi hz0 hz1 hz2 rfl (by decide) _ _ _ rfl hown0 x len cap (flatV rcK es rs) rfl ?c0 ?c1 ?c2 ?c3 ?c4 ?c5 ?_)
    try case c0 => first | (rw [unhide HFL, ← unhide HLN]; rfl) | (have := unhide HFL; have := unhide HLN; have e2 : rcK.m = 2 := rfl; omega)
    try case c1 => exact unhide HS2
    try case c2 => exact rc_cells
    try case c3 => unfold maxLen; omega
    try case c4 => omega
    try case c5 => simp
    intro v' w2 hown2 hgrow _
    obtain ⟨a2, cap2, hvv⟩ := own_shape hown2
    have hb2 : Below w.heap.size w w2 := (unhide HB).grown hgrow (unhide HB).size (fun g e => (hown0.lt g e).1)
    rw [hvv] at hown2
    rw [hvv]
    have HO := hide hown2
    have HB2 := hide hb2
    clear hown2 hb2 hgrow hvv hown0 HB
    go_wp2_with fail
    go_ret
    refine ⟨a2, cap2, es, ?_, s1, ?_, unhide HS3, unhide HB2⟩
    · simp
    · simpa using unhide HO

end Go.Proofs.YtfhhnnlafdgloaaGreat

/- What is proved here: what the program's copyRecents answers: the same recents in memory of their own. -/
namespace Go.Proofs.YtfhhnnlafdgloaaGreat
open Go.RowKit
set_option linter.unusedVariables false
set_option linter.unusedSimpArgs false
set_option maxRecDepth 100000

theorem rc_vals (e : RcS) (r : Rc) : rcK.vals e r = [.int .i64 r.1, .slice e.2.a e.2.n e.2.c] := rfl

theorem flat_set : ∀ (fs : List RcS) (rs : List Rc) (k : Nat) (e : Sl), k < fs.length → fs.length = rs.length → flatV rcK (fs.set k ((), e)) rs = (flatV rcK fs rs).set (k * 2 + 1) (.slice e.a e.n e.c)
  | [], _, k, e, h, _ => by simp at h
  | _ :: _, [], k, e, _, h => by simp at h
  | f :: fs, r :: rs, 0, e, _, _ => by
    show rcK.vals ((), e) r ++ flatV rcK fs rs = (rcK.vals f r ++ flatV rcK fs rs).set 1 _
    rw [rc_vals, rc_vals]
    rfl
  | f :: fs, r :: rs, k + 1, e, h, hl => by
    show rcK.vals f r ++ flatV rcK (fs.set k ((), e)) rs = (rcK.vals f r ++ flatV rcK fs rs).set ((k + 1) * 2 + 1) _
    rw [flat_set fs rs k e (by simpa using h) (by simpa using hl), rc_vals, List.set_append_right _ _ (by simp; omega)]
    congr 2
    simp
    omega

/-- Recents of which the first k lie in memory of their own. -/
def RcP (B : Nat) (wr : World) (d : Nat → Path) (p : Path) (s : Sl) (rs : List Rc) (es : List RcS) (k : Nat) : Prop :=
  ∃ fs : List RcS, fs.length = rs.length ∧ wr.ownsRow B 89 2 (.slice s.a s.n s.c) s.n (flatV rcK fs rs) ∧ (∀ x, s.a = some x → d x.block = p) ∧ (∀ i e x, i < k → fs[i]? = some e → rs[i]? = some x → rcK.Own wr B d (p ++ [i]) e x) ∧ ∀ i, k ≤ i → fs[i]? = es[i]?

theorem RcP.cell {B : Nat} {wr : World} {d : Nat → Path} {p : Path} {s : Sl} {rs : List Rc} {es : List RcS} {k : Nat} (h : RcP B wr d p s rs es k) (hn : s.n = rs.length) (hk : k < rs.length) {e : RcS} {r : Rc} (he : es[k]? = some e) (hr : rs[k]? = some r) :
    ∃ g, s.a = some ⟨g, 0, none⟩ ∧ wr.cell? ⟨g, k * 2, none⟩ = some (.int .i64 r.1) ∧ wr.cell? ⟨g, k * 2 + 1, none⟩ = some (.slice e.2.a e.2.n e.2.c) ∧ (∀ j, wr.frozen? ⟨g, j, none⟩ = false) ∧ B ≤ g ∧ g < wr.heap.size := by
  obtain ⟨fs, h1, h2, h3, h4, h5⟩ := h
  obtain ⟨g, cap, e', hb, hl⟩ := h2.form (by omega)
  simp only [Value.slice.injEq] at e'
  obtain ⟨ha, _, _⟩ := e'
  have hf : fs[k]? = some e := (h5 k (Nat.le_refl _)).trans he
  have o := OwnS.of h2
  have c0 := flatV_at rcK fs rs k 0 e r _ hf hr (by rw [rc_vals]; rfl)
  have c1 := flatV_at rcK fs rs k 1 e r _ hf hr (by rw [rc_vals]; rfl)
  have m2 : rcK.m = 2 := rfl
  rw [m2] at c0 c1
  refine ⟨g, ha, ?_, ?_, fun j => o.free ha j, hb, hl⟩
  · have := o.cell ha (j := k * 2) (by show k * 2 < s.n * 2; omega)
    rw [Nat.zero_add] at this
    exact this.trans c0
  · have := o.cell ha (j := k * 2 + 1) (by show k * 2 + 1 < s.n * 2; omega)
    rw [Nat.zero_add] at this
    exact this.trans c1

theorem RcP.step {B : Nat} {wr w2 : World} {d : Nat → Path} {p : Path} {s : Sl} {rs : List Rc} {es : List RcS} {k g : Nat} (h : RcP B wr d p s rs es k) (hk : k < rs.length) {r : Rc} (hr : rs[k]? = some r) (hr64 : in64 r.1) (hz : ∀ x ∈ r.2, 0 ≤ x ∧ x ≤ 255)
    (hB : B ≤ wr.heap.size) (ha : s.a = some ⟨g, 0, none⟩) {a1 : Option Addr} {n1 c1 : Nat} (ho : w2.ownsRow wr.heap.size 5 1 (.slice a1 n1 c1) n1 (r.2.map (Value.int .u8))) (hb : Below wr.heap.size wr w2) :
    RcP B (w2.setCell ⟨g, k * 2 + 1, none⟩ (.slice a1 n1 c1)) (fun q => if wr.heap.size ≤ q then (p ++ [k]) ++ [1] else d q) p s rs es (k + 1) := by
  obtain ⟨fs, h1, h2, h3, h4, h5⟩ := h
  obtain ⟨sa, sn, sc⟩ := s
  simp only at ha h2 h3
  subst ha
  have hgl : g < wr.heap.size := (h2.lt g rfl).2
  have hdg : d g = p := h3 _ rfl
  have hdo : ∀ q, q < wr.heap.size → (if wr.heap.size ≤ q then (p ++ [k]) ++ [1] else d q) = d q := fun q hq => if_neg (by omega)
  have keep : ∀ {i : Nat} {e : RcS} {x : Rc}, rcK.Own w2 B (fun q => if wr.heap.size ≤ q then (p ++ [k]) ++ [1] else d q) (p ++ [i]) e x → rcK.Own (w2.setCell ⟨g, k * 2 + 1, none⟩ (.slice a1 n1 c1)) B (fun q => if wr.heap.size ≤ q then (p ++ [k]) ++ [1] else d q) (p ++ [i]) e x := fun {i e x} q => rcK.frame q (fun g' a b c => heap_setCell_other w2 ⟨g, k * 2 + 1, none⟩ g' _ (fun ee => by
    have ee' : g' = g := ee
    subst ee'
    rw [hdo g' hgl, hdg] at c
    exact not_pre_self p i c))
  refine ⟨fs.set k ((), ⟨a1, n1, c1⟩), by simp [h1], ?_, fun x hx => ?_, fun i e x hi he hx => ?_, fun i hi => ?_⟩
  · rw [flat_set fs rs k ⟨a1, n1, c1⟩ (by omega) h1]
    exact ((own_below h2 hb (Nat.le_refl _)).stored (k * 2 + 1) (.slice a1 n1 c1)).1
  · obtain rfl := Option.some.inj hx
    show (if wr.heap.size ≤ g then _ else _) = _
    rw [if_neg (by omega)]
    exact hdg
  · by_cases hik : i < k
    · rw [List.getElem?_set_ne (by omega)] at he
      exact keep (rcK.ownBelow (rcK.recolNew (h4 i e x hik he hx) hdo) hb (Nat.le_refl _))
    · obtain rfl : i = k := by omega
      rw [List.getElem?_set_self (by omega)] at he
      obtain rfl := Option.some.inj he
      obtain rfl := Option.some.inj (hr.symm.trans hx)
      refine keep ⟨hr64, ⟨hz, ownsRow_base ho hB, fun y hy => ?_⟩⟩
      have hy' : a1 = some y := hy
      have l := (ho.lt y.block (by rw [hy']; rfl)).1
      show (if wr.heap.size ≤ y.block then _ else _) = _
      rw [if_pos l]
  · rw [List.getElem?_set_ne (by omega)]
    exact h5 i (by omega)

theorem RcP.below {B : Nat} {wr w2 : World} {d : Nat → Path} {p : Path} {s : Sl} {rs : List Rc} {es : List RcS} {k : Nat} (h : RcP B wr d p s rs es k) (hb : Below wr.heap.size wr w2) : RcP B w2 d p s rs es k := by
  obtain ⟨fs, h1, h2, h3, h4, h5⟩ := h
  exact ⟨fs, h1, own_below h2 hb (Nat.le_refl _), h3, fun i e x hi he hx => rcK.ownBelow (h4 i e x hi he hx) hb (Nat.le_refl _), h5⟩

set_option maxHeartbeats 4000000 in
theorem copyRecents_any (p : Path) (s : Sl) (rs : List Rc) (w : World) (h : RowOk rcK w s rs) (hl : s.n ≤ 1048576) (hz : ∀ r ∈ rs, r.2.length ≤ 1048576) :
    Calls Tryz.prog 61 #[.slice s.a s.n s.c] w fun e w' => ∃ (s' : Sl) (d : Nat → Path), e = .returned (.slice s'.a s'.n s'.c) ∧ RowOwn rcK 89 w' w.heap.size d p s' rs ∧ Below w.heap.size w w' := by
  have hil := h.len
  have D1 := hide (cloneRc_any s rs w h hl)
  obtain ⟨sa, len, cap⟩ := s
  simp only at hil hl
  have HL := hide hil
  have HZ := hide hz
  clear h hil hz
  go_enter Tryz.func61, Tryz.ntmps61
  go_wp2_with fail
  refine (unhide D1).mono ?_
  rintro e w2 ⟨a2, c2, es, rfl, hes, o2, hok, b2⟩
  simp only at o2 ⊢
  have P0 : RcP w.heap.size w2 (fun _ => p) p ⟨a2, len, c2⟩ rs es 0 := ⟨es, hes, o2, fun _ _ => rfl, fun i e x hi => absurd hi (Nat.not_lt_zero _), fun i _ => rfl⟩
  have HP := hide P0
  have HBR := hide hok
  have HES := hide hes
  have HB2 := hide b2
  clear D1 o2 b2 hok P0 hes
  go_wp2_with fail
  go_loopw [10] (fun i wr => ∃ (k : Nat) (d : Nat → Path), k ≤ len ∧ i = .int .i64 k ∧ RcP w.heap.size wr d p ⟨a2, len, c2⟩ rs es k ∧ Below w.heap.size w wr) (fun i _ => len - (intOf i).toNat)
  case atStart => exact ⟨0, fun _ => p, Nat.zero_le _, rfl, unhide HP, unhide HB2⟩
  case round =>
    obtain ⟨k, d, hk, rfl, hps, hbr⟩ := hrel
    clear HP HB2
    by_cases hlt : k < len
    · have hkz : k < rs.length := by rw [← unhide HL]; exact hlt
      obtain ⟨r, hit⟩ : ∃ r, rs[k]? = some r := ⟨_, List.getElem?_eq_getElem hkz⟩
      obtain ⟨e, hee⟩ : ∃ e, es[k]? = some e := ⟨_, List.getElem?_eq_getElem (by rw [unhide HES]; exact hkz)⟩
      obtain ⟨g, hga, hc0, hc1, hfz, hgB, hgl⟩ := hps.cell (unhide HL) hkz hee hit
      simp only at hga
      subst hga
      obtain ⟨q, z⟩ := r
      obtain ⟨⟨⟩, e⟩ := e
      have hoke := (unhide HBR) k ((), e) (q, z) hee hit
      have hzl : z.length ≤ 1048576 := (unhide HZ) (q, z) (List.mem_of_getElem? hit)
      have hrow0 : BRow w e.a e.n z := hoke.2.row
      have hel : z.length = e.n := hrow0.1
      simp only at hc0 hc1
      have kv := SBlk.new wr #[.int .i64 q, .slice e.a e.n e.c] 89
      have bv := below_alloc wr (.cells #[.int .i64 q, .slice e.a e.n e.c] 89)
      obtain ⟨Wv, ev⟩ : ∃ W, wr.alloc (.cells #[.int .i64 q, .slice e.a e.n e.c] 89) = W := ⟨_, rfl⟩
      rw [ev] at kv bv
      have v1 := kv.cell 1
      simp only [List.getElem?_cons_zero, List.getElem?_cons_succ] at v1
      have bwv := hbr.trans (bv.mono hbr.size)
      have DC := hide (clone_any e.a e.n e.c z Wv (hrow0.below bwv (Nat.le_refl _)) (by omega))
      have HST : Hid (∀ w3 a3 c3, w3.ownsRow Wv.heap.size 5 1 (.slice a3 e.n c3) e.n (z.map (Value.int .u8)) → Below Wv.heap.size Wv w3 → (∃ u, w3.cell? ⟨g, k * 2 + 1, none⟩ = some u) ∧ w3.frozen? ⟨g, k * 2 + 1, none⟩ = false ∧ (∃ d', RcP w.heap.size (w3.setCell ⟨g, k * 2 + 1, none⟩ (.slice a3 e.n c3)) d' p ⟨some ⟨g, 0, none⟩, len, c2⟩ rs es (k + 1)) ∧ Below w.heap.size w (w3.setCell ⟨g, k * 2 + 1, none⟩ (.slice a3 e.n c3))) := fun w3 a3 c3 ho hb => by
        have b13 : Below wr.heap.size wr w3 := bv.trans (hb.mono bv.size)
        refine ⟨⟨_, (b13.cell (p := ⟨g, k * 2 + 1, none⟩) hgl).trans hc1⟩, ?_, ⟨_, (hps.below bv).step hkz hit hoke.1 hrow0.2.1 bwv.size rfl ho hb⟩, (bwv.trans (hb.mono bwv.size)).setCell (p := ⟨g, k * 2 + 1, none⟩) hgB _⟩
        rw [World.frozen?_of_block (b13.block g hgl)]
        exact hfz _
      have k1 : (0 : Int) ≤ (k : Int) := by omega
      have k2 : (k : Int) < (len : Int) := by omega
      have EV := hide ev
      clear hps hbr hit hee hrow0 hel hzl hfz hoke kv bv bwv ev
      go_upto_region 5 with (rw [unhide EV])
      try rw [unhide EV]
      go_wp2_with fail
      refine (unhide DC).mono ?_
      rintro ev w3 ⟨a3, c3, rfl, o3, b3⟩
      obtain ⟨⟨u, hu⟩, hf, ⟨d', hP⟩, hB3⟩ := (unhide HST) w3 a3 c3 o3 b3
      have HP := hide hP
      have HB3 := hide hB3
      clear HST DC o3 b3 hP hB3 hc0 hc1 v1
      go_wp2_with fail
      go_roundw
      case rel => exact ⟨k + 1, _, by omega, by go_num, unhide HP, unhide HB3⟩
      case measure => simp [intOf]; omega
    · obtain rfl : k = len := by omega
      have hcs : RowOwn rcK 89 wr w.heap.size d p ⟨a2, k, c2⟩ rs := by
        obtain ⟨fs, h1, h2, h3, h4, h5⟩ := hps
        exact RowG.own ⟨unhide HL, fs, h1, h2, h3, fun i e x he hx => h4 i e x (by have := (List.getElem?_eq_some_iff.1 hx).1; have := unhide HL; omega) he hx⟩
      have HC := hide hcs
      have HB := hide hbr
      clear hps hbr hcs
      go_wp2_with fail
      go_ret
      exact ⟨⟨a2, k, c2⟩, d, rfl, unhide HC, unhide HB⟩

end Go.Proofs.YtfhhnnlafdgloaaGreat

/- What is proved here: what slices.Clone answers at a list of slices of bytes: the same slices in a row of its own. -/
namespace Go.Proofs.YtfhhnnlafdgloaaGreat
open Go.RowKit
set_option linter.unusedVariables false
set_option maxRecDepth 100000

/-- The slices of a list that came in. -/
theorem BsRow.slices {w : World} {b off len : Nat} {zss : List (List Int)} (h : BsRow w (some ⟨b, off, none⟩) len zss) :
    ∃ es : List Sl, es.length = len ∧ (∀ i e, es[i]? = some e → w.cell? ⟨b, off + i, none⟩ = some e.v) ∧ ∀ (i : Nat) (e : Sl) (z : List Int), es[i]? = some e → zss[i]? = some z → BRow w e.a e.n z := by
  have key : ∀ k, k ≤ len → ∃ es : List Sl, es.length = k ∧ (∀ i e, es[i]? = some e → w.cell? ⟨b, off + i, none⟩ = some e.v) ∧ ∀ (i : Nat) (e : Sl) (z : List Int), es[i]? = some e → zss[i]? = some z → BRow w e.a e.n z := by
    intro k
    induction k with
    | zero => exact fun _ => ⟨[], rfl, fun i e he => by simp at he, fun i e z he => by simp at he⟩
    | succ k ih =>
      intro hk
      obtain ⟨es, h1, h2, h3⟩ := ih (by omega)
      obtain ⟨z, hz⟩ : ∃ z, zss[k]? = some z := ⟨_, List.getElem?_eq_getElem (by rw [h.1]; omega)⟩
      obtain ⟨b', off', e', hat⟩ := h.2.2 (by omega)
      simp only [Option.some.injEq, Addr.mk.injEq, and_true] at e'
      obtain ⟨rfl, rfl⟩ := e'
      obtain ⟨sa, sl, sc, hc, hr⟩ := hat k z hz
      refine ⟨es ++ [⟨sa, sl, sc⟩], by simp [h1], fun i e he => ?_, fun i e y he hy => ?_⟩
      · by_cases hi : i < k
        · rw [List.getElem?_append_left (by omega)] at he; exact h2 i e he
        · have hi2 : i = k := by
            have := (List.getElem?_eq_some_iff.1 he).1
            simp at this
            omega
          subst hi2
          rw [List.getElem?_append_right (by omega), h1, Nat.sub_self] at he
          simp at he
          subst he
          exact hc
      · by_cases hi : i < k
        · rw [List.getElem?_append_left (by omega)] at he; exact h3 i e y he hy
        · have hi2 : i = k := by
            have := (List.getElem?_eq_some_iff.1 he).1
            simp at this
            omega
          subst hi2
          rw [List.getElem?_append_right (by omega), h1, Nat.sub_self] at he
          simp at he
          subst he
          obtain rfl := Option.some.inj (hz.symm.trans hy)
          exact hr
  exact key len (Nat.le_refl _)

set_option maxHeartbeats 2000000 in
theorem cloneSS_any (a : Option Addr) (len cap : Nat) (zss : List (List Int)) (w : World) (h : BsRow w a len zss) (hl : len ≤ 1048576) :
    Calls Tryz.prog 84 #[.slice a len cap] w fun e w' => ∃ (a' : Option Addr) (c' : Nat) (es : List Sl), e = .returned (.slice a' len c') ∧ es.length = len ∧
      w'.ownsRow w.heap.size 27 1 (.slice a' len c') len (es.map Sl.v) ∧ (∀ (i : Nat) (e : Sl) (z : List Int), es[i]? = some e → zss[i]? = some z → BRow w e.a e.n z) ∧ Below w.heap.size w w' := by
  obtain ⟨i0, hi, hz0, hz1, hz2⟩ := info_parts infoSB
  have qT : ∀ (w : World) (a : Option Addr) (n c n' c' : Nat), (binOp .eql 22 (.slice a n c) (.slice none n' c')).run Tryz.prog w = .ok (.bool a.isNone) w := fun w a n c n' c' => Lib.run_eql_slice_nil w _ _ a n c n' c' Tryz.underlying22
  cases a with
  | none =>
    have h0 : len = 0 := by
      rcases Nat.eq_zero_or_pos len with h0 | hp
      · exact h0
      · obtain ⟨_, _, e, _⟩ := h.2.2 hp; cases e
    subst h0
    clear h
    go_enter Tryz.func84, Tryz.ntmps84
    go_wp2_with fail
    go_ret
    exact ⟨none, 0, [], rfl, rfl, World.ownsRow_nil _ _ _ _, fun i e z he => by simp at he, Below.refl _ _⟩
  | some x =>
    have hown0 : (w.alloc (.cells #[] 27)).ownsRow w.heap.size 27 1 (.slice (some ⟨w.heap.size, 0, none⟩) 0 0) 0 [] := World.ownsRow_lit w #[] 0 (Nat.le_refl _) (by unfold maxLen; omega) rfl
    have hb := below_alloc w (.cells #[] 27)
    obtain ⟨es, s1, s2, s3⟩ : ∃ es : List Sl, es.length = len ∧ (∀ j u, (es.map Sl.v)[j]? = some u → (w.alloc (.cells #[] 27)).cell? (x.add j) = some u) ∧ ∀ (i : Nat) (e : Sl) (z : List Int), es[i]? = some e → zss[i]? = some z → BRow w e.a e.n z := by
      rcases Nat.eq_zero_or_pos len with h0 | hp
      · subst h0
        exact ⟨[], rfl, fun j u hu => by simp at hu, fun i e z he => by simp at he⟩
      · obtain ⟨b, off, e, _⟩ := h.2.2 hp
        cases e
        obtain ⟨es, s1, s2, s3⟩ := h.slices
        refine ⟨es, s1, fun j u hu => ?_, s3⟩
        rw [List.getElem?_map] at hu
        obtain ⟨e, he, rfl⟩ := Option.map_eq_some_iff.1 hu
        have hc := s2 j e he
        rw [add_none]
        exact (hb.cell (lt_of_cell hc)).trans hc
    have HS2 := hide s2
    have HS3 := hide s3
    have HB := hide hb
    clear h s2 s3 hb
    go_enter Tryz.func84, Tryz.ntmps84
    go_wp2_with (at_builtin; refine wpList_append_own _ rfl _ _ 22 rfl w.heap.size 27 i0 (.slice none 0 0) 1 24 Tryz.underlying22 hi hz0 hz1 hz2 rfl (by decide) _ _ _ rfl hown0 x len cap (es.map Sl.v) rfl ?c0 ?c1 ?c2 ?c3 ?c4 ?c5 ?_)
    case c0 => simp [s1]
    case c1 => exact unhide HS2
    case c2 => intro u hu; obtain ⟨z, _, rfl⟩ := List.mem_map.1 hu; rfl
    case c3 => unfold maxLen; omega
    case c4 => omega
    case c5 => simp
    intro v' w2 hown2 hgrow _
    obtain ⟨a2, cap2, hvv⟩ := own_shape hown2
    have hb2 : Below w.heap.size w w2 := (unhide HB).grown hgrow (unhide HB).size (fun g e => (hown0.lt g e).1)
    rw [hvv] at hown2
    rw [hvv]
    have HO := hide hown2
    have HB2 := hide hb2
    clear hown2 hb2 hgrow hvv hown0 HB
    go_wp2_with fail
    go_ret
    refine ⟨a2, cap2, es, ?_, s1, ?_, unhide HS3, unhide HB2⟩
    · simp
    · simpa using unhide HO

end Go.Proofs.YtfhhnnlafdgloaaGreat
